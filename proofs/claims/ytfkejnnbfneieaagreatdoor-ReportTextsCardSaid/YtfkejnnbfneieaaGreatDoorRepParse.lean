/- report.Text at any report; report.Parse. -/
import Derived.Test.YtfkejnnbfneieaaGreatDoorRepLines
import Derived.Test.YtfkejnnbfneieaaGreatDoorRepPick
import Derived.Test.YtfkejnnbfneieaaGreatDoorEvtParse
import Derived.Test.YtfkejnnbfneieaaGreatDoorJoin
import Derived.Laws.IdiomStrings
namespace Go.Proofs.YtfkejnnbfneieaaGreatDoor
open Go.RowKit Go.Sort
open Evt

set_option maxRecDepth 100000 in
theorem repText_bad (r : Rp) (oo : Option Addr) (oc : Nat) (hc1 : r.opts.length ≤ oc) (hc2 : oc ≤ 9223372036854775807) (hv : validR r = false) (W : World) (hi : IsL 14 ElEv W oo r.opts) :
    Calls Tryz.prog 13 #[.agg #[.slice oo r.opts.length oc, .bool r.doubt]] W fun e w' => e = .returned (.tuple #[.string ⟨#[]⟩, .int .i64 1]) ∧ Below W.heap.size W w' := by
  obtain ⟨l, db⟩ := r
  dsimp only at hc1 hi ⊢
  obtain ⟨V, HV⟩ : ∃ w, Hid (w = W.alloc (.cells #[.slice oo l.length oc, .bool db] 31)) := ⟨_, Lib.hid rfl⟩
  obtain ⟨N, HN⟩ : ∃ N, Hid (N = W.heap.size) := ⟨_, Lib.hid rfl⟩
  have HB : Hid (Below W.heap.size W V) := Lib.hid (by rw [HV.out]; exact (Below.refl _ _).alloc (Nat.le_refl _) _)
  have HC := Lib.hid (repValid_any ⟨l, db⟩ oo oc hc1 hc2 V (hi.below stEv HB.out))
  rw [hv] at HC
  dsimp only at HC
  obtain ⟨n, Hn⟩ : ∃ n, Hid (n = l.length) := ⟨_, Lib.hid rfl⟩
  rw [← Hn.out] at HC HV ⊢
  clear hi hv hc1
  go_enter Tryz.func13, Tryz.ntmps13
  go_wp2_with fail
  rw [← HV.out]
  refine HC.out.mono ?_
  rintro e w1 ⟨rfl, hb⟩
  have HB1 := Lib.hid (below_step HB.out hb)
  clear hb
  go_wp2_with fail
  go_ret2
  exact ⟨rfl, HB1.out⟩
noncomputable def txR (r : Rp) : ByteArray := if validR r = true then textR r else ⟨#[]⟩
theorem repText_any (r : Rp) (oo : Option Addr) (oc : Nat) (hc1 : r.opts.length ≤ oc) (hc2 : oc ≤ 9223372036854775807) (W : World) (hT : WTab W) (ht : Tab W) (hi : IsL 14 ElEv W oo r.opts) :
    Calls Tryz.prog 13 #[.agg #[.slice oo r.opts.length oc, .bool r.doubt]] W fun e w' => e = .returned (.tuple #[.string (txR r), .int .i64 (if validR r then 0 else 1)]) ∧ Below W.heap.size W w' := by
  cases hv : validR r with
  | true =>
    refine (repText_good r oo oc hc1 hc2 hv (fun e he => ?_) W hT ht hi).mono ?_
    · have hve := validR_each hv e he
      exact ⟨by have := textE_len hve; omega, fun W hT ht => evText_yes e (sz_valid hve) hve W hT ht⟩
    · rintro e w' ⟨rfl, hb⟩
      exact ⟨by unfold txR; rw [if_pos hv]; rfl, hb⟩
  | false =>
    refine (repText_bad r oo oc hc1 hc2 hv W hi).mono ?_
    rintro e w' ⟨rfl, hb⟩
    exact ⟨by unfold txR; rw [if_neg (by rw [hv]; simp)]; rfl, hb⟩
namespace Evt
theorem optsL_app : ∀ (a b : List (List UInt8)), optsL (a ++ b) = match optsL a, optsL b with | some x, some y => some (x ++ y) | _, _ => none
  | [], b => by
    show optsL b = _
    cases optsL b <;> rfl
  | x :: a, b => by
    show (match parseE x, optsL (a ++ b) with | some e, some r => some (e :: r) | _, _ => none) = _
    rw [optsL_app a b]
    have e : optsL (x :: a) = match parseE x, optsL a with | some e, some r => some (e :: r) | _, _ => none := rfl
    rw [e]
    cases parseE x <;> cases optsL a <;> cases optsL b <;> rfl
/-- The report after some lines. -/
noncomputable def progR : List (List UInt8) → Option Rp
  | [] => some ⟨[], false⟩
  | x :: l => (optsL l).map fun o => ⟨o, perhB x⟩
theorem candR_prog (s : List UInt8) : candR s = progR (linesL s) := by
  unfold candR
  cases linesL s <;> rfl
theorem prog_one (x : List UInt8) : progR [x] = some ⟨[], perhB x⟩ := rfl
theorem prog_more {x : List UInt8} {l : List (List UInt8)} {r : Rp} (h : progR (x :: l) = some r) (y : List UInt8) : progR (x :: l ++ [y]) = (parseE y).map fun e => ⟨r.opts ++ [e], r.doubt⟩ := by
  have h1 : (optsL l).map (fun o => (⟨o, perhB x⟩ : Rp)) = some r := h
  obtain ⟨o, ho, rfl⟩ := Option.map_eq_some_iff.1 h1
  show (optsL (l ++ [y])).map (fun o => (⟨o, perhB x⟩ : Rp)) = _
  rw [optsL_app, ho]
  have e : optsL [y] = match parseE y with | some e => some [e] | none => none := by
    show (match parseE y, optsL [] with | some e, some r => some (e :: r) | _, _ => none) = _
    cases parseE y <;> rfl
  rw [e]
  cases parseE y <;> rfl
theorem prog_next {l : List (List UInt8)} {r : Rp} (hl : l ≠ []) (h : progR l = some r) (y : List UInt8) : progR (l ++ [y]) = (parseE y).map fun e => ⟨r.opts ++ [e], r.doubt⟩ := by
  cases l with
  | nil => exact absurd rfl hl
  | cons x l => exact prog_more h y
theorem prog_none {l : List (List UInt8)} (hl : l ≠ []) (h : progR l = none) (t : List (List UInt8)) : progR (l ++ t) = none := by
  cases l with
  | nil => exact absurd rfl hl
  | cons x l =>
    have h1 : (optsL l).map (fun o => (⟨o, perhB x⟩ : Rp)) = none := h
    have h2 : optsL l = none := Option.map_eq_none_iff.1 h1
    show (optsL (l ++ t)).map (fun o => (⟨o, perhB x⟩ : Rp)) = none
    rw [optsL_app, h2]
    rfl
theorem prog_len {l : List (List UInt8)} {r : Rp} (h : progR l = some r) (t : List (List UInt8)) {r' : Rp} (h' : progR (l ++ t) = some r') : r.opts.length ≤ r'.opts.length := by
  cases l with
  | nil => cases h; simp
  | cons x l =>
    have h1 : (optsL l).map (fun o => (⟨o, perhB x⟩ : Rp)) = some r := h
    obtain ⟨o, ho, rfl⟩ := Option.map_eq_some_iff.1 h1
    have h2 : (optsL (l ++ t)).map (fun o => (⟨o, perhB x⟩ : Rp)) = some r' := h'
    obtain ⟨o', ho', rfl⟩ := Option.map_eq_some_iff.1 h2
    rw [optsL_app, ho] at ho'
    cases hq : optsL t with
    | none => rw [hq] at ho'; cases ho'
    | some q => rw [hq] at ho'; cases ho'; simp
theorem parseR_none {s : ByteArray} (h : ∀ r, progR (linesL s.data.toList) = some r → 4 < r.opts.length) : parseR s = none := by
  unfold parseR
  rw [candR_prog]
  cases hq : progR (linesL s.data.toList) with
  | none => rfl
  | some r =>
    dsimp only
    rw [if_neg]
    rintro ⟨hv, -⟩
    have := (validR_len hv).2
    have := h r hq
    omega
theorem parseR_cand {s : ByteArray} {r : Rp} (h : progR (linesL s.data.toList) = some r) : parseR s = if validR r = true ∧ textR r = s then some r else none := by
  unfold parseR
  rw [candR_prog, h]
end Evt
noncomputable def rpOf (s : ByteArray) : Rp := (parseR s).getD ⟨[], false⟩
noncomputable def reOf (s : ByteArray) : Int := if (parseR s).isSome then 0 else 8
def RParse (s : ByteArray) (W : World) (e : Ending) (w' : World) : Prop :=
  ∃ oo oc, e = .returned (.tuple #[.agg #[.slice oo (rpOf s).opts.length oc, .bool (rpOf s).doubt], .int .i64 (reOf s)]) ∧ IsL 14 ElEv w' oo (rpOf s).opts ∧ (rpOf s).opts.length ≤ oc ∧ oc ≤ 9223372036854775807 ∧ Below W.heap.size W w'
theorem OwnE.set {B : Nat} {w : World} {v : Value} {es : List Ev} (h : OwnE B w v es) {R : Nat} (hR : R < B) (i : Nat) (u : Value) : OwnE B (w.setCell ⟨R, i, none⟩ u) v es := by
  refine ⟨h.row.kept (w' := w.setCell ⟨R, i, none⟩ u) (row := some R) ⟨rfl, rfl, rfl, by simp, fun j _ hj => Below.heap_setCell _ _ _ _ (fun e => hj (by rw [e]))⟩ (Or.inr fun e => ?_), h.sz⟩
  have := (h.row.lt R e).1
  omega
theorem bytes_conv {w : World} {b p c : Nat} {s : ByteArray} {x : List UInt8} (h : Lib.Bytes w b 0 s) (hp : p + x.length ≤ s.size) (hx : (s.data.toList.drop p).take x.length = x) :
    (convert 54 9 (.slice (some ⟨b, p, none⟩) x.length c)).run Tryz.prog w = .ok (.string ⟨x.toArray⟩) w := by
  refine run_convert_bytes_back w 54 9 5 ⟨b, p, none⟩ c x Tryz.underlying54 Tryz.underlying5 Tryz.underlying9 (fun j hj => ?_)
  have e : (⟨b, p, none⟩ : Addr).add j = ⟨b, p + j, none⟩ := by unfold Addr.add; split <;> simp_all
  have h1 := h (p + j) (by omega)
  rw [Nat.zero_add] at h1
  rw [e, h1]
  have e2 : s[p + j] = x[j] := by
    have e3 : x[j] = ((s.data.toList.drop p).take x.length)[j]'(by rw [hx]; exact hj) := by congr 1; exact hx.symm
    rw [e3, List.getElem_take, List.getElem_drop]
    rfl
  rw [e2]
set_option maxRecDepth 100000 in
set_option maxHeartbeats 4000000 in
theorem repParse_any (s : ByteArray) (hs : s.size ≤ 20000) (W : World) (hT : WTab W) (ht : Tab W) (hE : Errs W) : Calls Tryz.prog 9 #[.string s] W (RParse s W) := by
  have hd : decide ((20000 : Int) < (s.size : Int)) = false := decide_eq_false (by omega)
  have HT := Lib.hid (And.intro hT (And.intro ht hE))
  obtain ⟨R2, HR2⟩ : ∃ N, Hid (N = W.heap.size) := ⟨_, Lib.hid rfl⟩
  obtain ⟨R4, HR4⟩ : ∃ N, Hid (N = R2 + 1) := ⟨_, Lib.hid rfl⟩
  obtain ⟨V1, HV1⟩ : ∃ w, Hid (w = W.alloc (.cells #[.slice none 0 0, .bool false] 31)) := ⟨_, Lib.hid rfl⟩
  obtain ⟨V2, HV2⟩ : ∃ w, Hid (w = V1.alloc (.cells #[.slice none 0 0, .bool false] 31)) := ⟨_, Lib.hid rfl⟩
  have HZ1 : Hid (V1.heap.size = R4) := Lib.hid (by rw [HV1.out, HR4.out, HR2.out]; simp)
  have HZ2 : Hid (V2.heap.size = R4 + 1) := Lib.hid (by rw [HV2.out]; simp [HZ1.out])
  have hB1 : Below W.heap.size W V1 := by rw [HV1.out]; exact (Below.refl _ _).alloc (Nat.le_refl _) _
  have hB2 : Below V1.heap.size V1 V2 := by rw [HV2.out]; exact (Below.refl _ _).alloc (Nat.le_refl _) _
  have HW2 : Hid (Whole V2 R2 31 #[.slice none 0 0, .bool false]) := Lib.hid (whole_belowM (by rw [HV1.out, HR2.out]; exact Whole.new _ _ _) hB2)
  have HW4 : Hid (Whole V2 R4 31 #[.slice none 0 0, .bool false]) := Lib.hid (by rw [HV2.out, ← HZ1.out]; exact Whole.new _ _ _)
  have HB2 := Lib.hid (below_step hB1 hB2)
  obtain ⟨cap, Hcap⟩ : ∃ c, Hid (c = grownCap V2 s.size 0 5) := ⟨_, Lib.hid rfl⟩
  obtain ⟨V3, HV3⟩ : ∃ w, Hid (w = V2.drew.alloc (.cells (bytesRow s cap) 5 ((bytesRow s cap).size, (bytesRow s cap).size + 1))) := ⟨_, Lib.hid rfl⟩
  obtain ⟨b, Hb⟩ : ∃ N, Hid (N = R4 + 1) := ⟨_, Lib.hid rfl⟩
  have kc : (convert 9 54 (.string s)).run Tryz.prog V2 = .ok (.slice (some ⟨b, 0, none⟩) s.size cap) V3 := by
    rw [run_bytes_of_string V2 9 54 5 s Tryz.underlying9 Tryz.underlying54 Tryz.underlying5, HV3.out, Hcap.out, Hb.out, HZ2.out]
  have hc1 : s.size ≤ cap := by rw [Hcap.out]; exact grownCap_ge _ _ _ _
  have hc2 : cap ≤ 9223372036854775807 := by rw [Hcap.out]; exact grownCap_le_maxLen _ _ _ _ (by unfold maxLen; omega)
  have hB3 : Below V2.heap.size V2 V3 := by rw [HV3.out]; exact ((Below.refl _ _).drew).alloc (Nat.le_refl _) _
  have hby : Lib.Bytes V3 b 0 s := by
    intro i hi
    have h1 : V3.heap[b]? = some (.cells (bytesRow s cap) 5 ((bytesRow s cap).size, (bytesRow s cap).size + 1)) := by
      rw [HV3.out, Hb.out, ← HZ2.out]
      exact heap_alloc_new V2.drew _
    have h2 := bytesRow_at s cap i (by exact hi)
    rw [Nat.zero_add]
    simp only [World.cell?, h1, h2]
    rfl
  have hbl : b < V3.heap.size := by
    have : V3.heap.size = V2.heap.size + 1 := by rw [HV3.out]; simp
    rw [this, HZ2.out, Hb.out]
    omega
  have HLn := Lib.hid (lines_any b cap s hs hc1 hc2 V3 hby hbl)
  have HBy := Lib.hid hby
  have HB3 := Lib.hid (below_step HB2.out hB3)
  have HW23 := Lib.hid (whole_belowM HW2.out hB3)
  have HW43 := Lib.hid (whole_belowM HW4.out hB3)
  have HS := Lib.hid hs
  have Hbl := Lib.hid hbl
  clear hB1 hB2 hB3 hby hbl hT ht hE hc1 hc2 hs
  go_enter Tryz.func9, Tryz.ntmps9
  go_wp2_with (first
    | (with_reducible show wpList _ _ _ (Oper.mk _ (Op.convert _ _ _) _ _ _ _ :: _) _ _; refine Hid.out ?_))
  refine Lib.hid ?_
  rw [← HV1.out, ← HV2.out, ← HR2.out, ← HR4.out]
  go_wp2_with fail
  refine HLn.out.mono ?_
  rintro e wL ⟨v, vs, rfl, hrow, hlines, hb⟩
  obtain ⟨ao, vc, rfl⟩ := owns_shapeM hrow
  obtain ⟨L, HL⟩ : ∃ L, Hid (L = linesL s.data.toList) := ⟨_, Lib.hid rfl⟩
  obtain ⟨K, HK⟩ : ∃ K, Hid (K = vs.length) := ⟨_, Lib.hid rfl⟩
  have HKL : Hid (L.length = K) := Lib.hid (by rw [HL.out, HK.out]; exact hlines.1.symm)
  have HRow : Hid (∀ k, k < K → ∃ g p c x, ao = some ⟨g, 0, none⟩ ∧ g ≠ R4 ∧ L[k]? = some x ∧ wL.cell? ⟨g, k, none⟩ = some (.slice (some ⟨b, p, none⟩) x.length c) ∧ p + x.length ≤ s.size ∧ (s.data.toList.drop p).take x.length = x) := Lib.hid (fun k hk => by
    rw [HK.out] at hk
    rcases hrow.2 with ⟨-, hz⟩ | ⟨g, cap, cur, hv, hbase, hbk, h1, h2, h3, h4⟩
    · omega
    · have hkl : k < (linesL s.data.toList).length := by rw [← hlines.1]; exact hk
      obtain ⟨p, c, e1, e2, e3, e4⟩ := hlines.2 k vs[k] _ (List.getElem?_eq_getElem hk) (List.getElem?_eq_getElem hkl)
      refine ⟨g, p, c, (linesL s.data.toList)[k], ?_, ?_, by rw [HL.out, List.getElem?_eq_getElem hkl], ?_, e3, e4⟩
      · cases hv; rfl
      · have := Hbl.out
        have := Hb.out
        omega
      · have hw : Whole wL g 54 cur := hbk
        rw [hw.cell, ← e1]
        have h5 : (cur.toList.take (vs.length * 1))[k]? = some vs[k] := by rw [h4, List.getElem?_eq_getElem hk]
        rw [List.getElem?_take_of_lt (by omega)] at h5
        rw [← Array.getElem?_toList]
        exact h5)
  rw [← HK.out]
  have HBL := Lib.hid (below_step HB3.out hb)
  have HWL2 := Lib.hid (whole_belowM HW23.out hb)
  have HWL4 := Lib.hid (whole_belowM HW43.out hb)
  have HByL := Lib.hid (bytes_below HBy.out hb Hbl.out)
  have HR4l : Hid (R4 < wL.heap.size) := Lib.hid HWL4.out.lt
  have HK2 : Hid (K ≤ 20001) := Lib.hid (by
    have h1 := Hid.out HKL
    have h2 := lines_len' s.data.toList
    have h3 : s.data.toList.length = s.size := rfl
    have h4 := HS.out
    rw [HL.out] at h1
    omega)
  have HNone0 : Hid (parseR s = none → ∀ wz, Below W.heap.size W wz → RParse s W (.returned (.tuple #[.agg #[.slice none 0 0, .bool false], .int .i64 8])) wz) := Lib.hid (fun h wz hz => by
    have e1 : rpOf s = ⟨[], false⟩ := by unfold rpOf; rw [h]; rfl
    have e2 : reOf s = 8 := by unfold reOf; rw [h]; rfl
    refine ⟨none, 0, ?_, ?_, ?_, by decide, hz⟩
    · rw [e1, e2]; rfl
    · rw [e1]; exact IsL.nil
    · rw [e1]; exact Nat.le_refl _)
  clear hb hrow hlines kc
  go_wp2_with fail
  go_loopw [19] (fun i wr => ∃ (k : Nat) (lv : Value) (r : Rp), k ≤ K ∧ i = .int .i64 k ∧ r.opts.length ≤ 4 ∧ Hid (Only (fun x => x = R4) wL wr ∧ Whole wr R4 31 #[lv, .bool r.doubt] ∧ OwnE wL.heap.size wr lv r.opts ∧ progR (L.take k) = some r)) (fun i _ => K - (intOf i).toNat)
  case atStart => exact ⟨0, .slice none 0 0, ⟨[], false⟩, Nat.zero_le _, by go_num, by decide, Lib.hid ⟨Only.refl _ _, HWL4.out, OwnE.nil _ _, rfl⟩⟩
  case round =>
    obtain ⟨k, lv, ⟨es, db⟩, hk, rfl, hes, HR⟩ := hrel
    dsimp only at hes HR
    by_cases hkK : k < K
    · have hd : decide ((k : Int) < K) = true := decide_eq_true (by omega)
      have hb0 : (0 : Int) ≤ k := by omega
      have hb1 : (k : Int) < K := by omega
      obtain ⟨g, p, c, x, rfl, hg4, hLk, hcell, hp, hpx⟩ := HRow.out k hkK
      have ck : wr.cell? ⟨g, 0 + k * 1, none⟩ = some (.slice (some ⟨b, p, none⟩) x.length c) := by rw [Nat.zero_add, Nat.mul_one]; exact HR.out.1.cell hcell hg4
      have ck' : wr.cell? ⟨g, k, none⟩ = some (.slice (some ⟨b, p, none⟩) x.length c) := HR.out.1.cell hcell hg4
      obtain ⟨sx, Hsx⟩ : ∃ t : ByteArray, Hid (t = ⟨x.toArray⟩) := ⟨_, Lib.hid rfl⟩
      obtain ⟨xl, Hxl⟩ : ∃ n, Hid (n = x.length) := ⟨_, Lib.hid rfl⟩
      rw [← Hxl.out] at ck ck'
      have HCv : Hid (∀ w, Below wr.heap.size wr w → (convert 54 9 (.slice (some ⟨b, p, none⟩) xl c)).run Tryz.prog w = .ok (.string sx) w) := Lib.hid (fun w hw => by
        rw [Hsx.out, Hxl.out]
        refine bytes_conv (fun i hi => ?_) hp hpx
        have hbR : ¬ b = R4 := by rw [Hb.out]; omega
        have h1 := HR.out.1.cell (HByL.out i hi) hbR
        exact (hw.cell (p := ⟨b, 0 + i, none⟩) (World.block_lt_of_cell? wr ⟨b, 0 + i, none⟩ h1)).trans h1)
      have HBr : Hid (Below W.heap.size W wr) := Lib.hid (HBL.out.trans (HR.out.1.below (by exact HBL.out.size) (by rintro _ rfl; have h1 := HR4.out; have h2 := HR2.out; omega)))
      by_cases hk0 : k = 0
      · subst hk0
        have hr0 := HR.out.2.2.2
        rw [List.take_zero] at hr0
        cases hr0
        obtain ⟨hd0, Hh0⟩ : ∃ h, Hid (h = headB true) := ⟨_, Lib.hid rfl⟩
        have HHd : Hid (∀ w, Calls Tryz.prog 25 #[.bool true] w fun e w' => e = .returned (.string hd0) ∧ w = w') := Lib.hid (fun w => by rw [Hh0.out]; exact (repHead_any true w).mono fun _ _ h => ⟨h.1, h.2.symm⟩)
        obtain ⟨pb, hpb⟩ : ∃ q, (sx.toList == hd0.toList) = q := ⟨_, rfl⟩
        have HPb : Hid (perhB x = pb) := Lib.hid (by rw [← hpb, Hsx.out, eq_bts, Hh0.out]; rfl)
        have HPr : Hid (progR (L.take (0 + 1)) = some ⟨[], pb⟩) := Lib.hid (by
          rw [List.take_add_one, hLk, List.take_zero, ← HPb.out]
          rfl)
        have kx : ∀ X : Grown wr, (convert 54 9 (.slice (some ⟨b, p, none⟩) xl c)).run Tryz.prog X.w = .ok (.string sx) X.w := fun X => HCv.out X.w X.below
        clear hLk hcell hp hpx
        go_wp2_with fail
        refine wp_region_grown_tail 5 (by kernel_rfl) (by kernel_rfl) ?_
        simp only [List.take_succ_cons, List.take_zero, List.drop_succ_cons, List.drop_zero]
        repeat (go_big_quiet_step ((go_at_call 25; exact grown_of_same (HHd.out _))))
        refine wpQuiet_nil ?_
        intro X
        obtain ⟨wx, Hwx⟩ : ∃ w, Hid (w = X.w) := ⟨_, Lib.hid rfl⟩
        have HBx : Hid (Below wr.heap.size wr wx) := Lib.hid (by rw [Hwx.out]; exact X.below)
        have HW4 := Lib.hid (whole_belowM HR.out.2.1 HBx.out)
        rw [← Hwx.out]
        clear kx
        have k4 : wx.cell? ⟨R4, 1, none⟩ = some (.bool false) := HW4.out.cell 1
        have z4 : wx.frozen? ⟨R4, 1, none⟩ = false := HW4.out.frozen 1
        go_wp2_with fail
        go_roundw
        case rel =>
          refine ⟨0 + 1, lv, ⟨[], pb⟩, by omega, by go_num, Nat.zero_le _, Lib.hid ⟨(HR.out.1.trans (Only.of_below _ HBx.out)).setCell (Or.inl rfl) _, ?_, (HR.out.2.2.1.below HBx.out).set HR4l.out _ _, HPr.out⟩⟩
          exact HW4.out.set 1 _
        case measure => simp [intOf]; omega
      · have hkb : ((k : Int) == 0) = false := by simp [hk0]
        have hsxd : sx.data.toList = x := by rw [Hsx.out]
        have hsz : sx.size ≤ 20000 := by
          have h1 : sx.size = sx.data.toList.length := rfl
          have h2 := HS.out
          rw [h1, hsxd]
          omega
        obtain ⟨o, Ho⟩ : ∃ o, Hid (o = parseE x) := ⟨_, Lib.hid rfl⟩
        have hps := parse_any sx (by omega) wr (HT.out.1.below HBr.out) (HT.out.2.1.below HBr.out) (HT.out.2.2.below HBr.out)
        unfold ParsePost at hps
        rw [hsxd, ← Ho.out] at hps
        have HPs := Lib.hid hps
        have HTk : Hid (L.take (k + 1) = L.take k ++ [x]) := Lib.hid (by rw [List.take_add_one, hLk]; rfl)
        have HNe : Hid (L.take k ≠ []) := Lib.hid (fun h => by
          have h1 := congrArg List.length h
          rw [List.length_take, HKL.out] at h1
          simp at h1
          omega)
        have HNx : Hid (progR (L.take (k + 1)) = o.map fun e => ⟨es ++ [e], db⟩) := Lib.hid (by rw [HTk.out, Ho.out]; exact prog_next HNe.out HR.out.2.2.2 x)
        have HNo : Hid (∀ q, progR (L.take (k + 1)) = q → (q = none ∨ ∃ r, q = some r ∧ 4 < r.opts.length) → parseR s = none) := Lib.hid (fun q hq h => by
          refine parseR_none fun r hr => ?_
          have e : linesL s.data.toList = L.take (k + 1) ++ L.drop (k + 1) := by rw [List.take_append_drop, HL.out]
          rw [e] at hr
          rcases h with rfl | ⟨r1, rfl, h4⟩
          · rw [prog_none (by rw [HTk.out]; simp) hq] at hr
            cases hr
          · have := prog_len hq _ hr
            omega)
        obtain ⟨y, Hy⟩ : ∃ y, Hid (y = evOf o) := ⟨_, Lib.hid rfl⟩
        obtain ⟨er, Her⟩ : ∃ z, Hid (z = erOf o) := ⟨_, Lib.hid rfl⟩
        rw [← Hy.out, ← Her.out] at HPs
        have kx := HCv.out wr (Below.refl _ _)
        have HSp := Lib.hid ev_size
        have HOne := Lib.hid (evC_one y)
        clear hsxd hsz hps hLk hcell hp hpx
        go_wp2_with fail
        refine HPs.out.mono ?_
        rintro e w1 ⟨rfl, hb⟩
        have HB1 := Lib.hid hb
        clear hb kx ck ck'
        obtain ⟨g7, Hg7⟩ : ∃ g, Hid (g = w1.heap.size) := ⟨_, Lib.hid rfl⟩
        obtain ⟨U, HU⟩ : ∃ w, Hid (w = w1.alloc (.cells (evC y).toArray 50)) := ⟨_, Lib.hid rfl⟩
        have HWU : Hid (Whole U g7 50 (evC y).toArray) := Lib.hid (by rw [HU.out]; exact Whole.newAt _ _ Hg7.out)
        have HBU : Hid (Below wr.heap.size wr U) := Lib.hid (below_step HB1.out (by rw [HU.out]; exact (Below.refl _ _).alloc (Nat.le_refl _) _))
        go_wp2_with (first
          | (with_reducible show wpList _ _ _ (Oper.mk _ (Op.store 50 _ _) _ _ _ _ :: _) _ _; refine Hid.out ?_))
        refine Lib.hid ?_
        refine wpList_store_new rfl _ _ _ rfl _ (evC y).toArray rfl rfl (HSp.out.trans rfl) rfl HOne.out ?_
        rw [← HU.out, ← Hg7.out]
        have HBn : Hid (Below W.heap.size W U) := Lib.hid (below_step HBr.out HBU.out)
        have HOnU : Hid (Only (fun x => x = R4) wL U) := Lib.hid (HR.out.1.trans (Only.of_below _ HBU.out))
        have HWn : Hid (Whole U R2 31 #[.slice none 0 0, .bool false]) := Lib.hid (HOnU.out.whole HWL2.out (by have := HR4.out; omega))
        have HW4 := Lib.hid (whole_belowM HR.out.2.1 HBU.out)
        have HOU := Lib.hid (HR.out.2.2.1.below HBU.out)
        obtain ⟨lo, lc, hlv, -⟩ := HOU.out.isL
        cases o with
        | none =>
          obtain rfl : er = 8 := Her.out
          have HNone := Lib.hid (HNone0.out (HNo.out _ HNx.out (Or.inl rfl)))
          go_wp2_with (first
            | (with_reducible show wpList _ _ _ (Oper.mk _ (Op.store 31 _ _) _ _ _ _ :: _) _ _; refine Hid.out ?_))
          refine Lib.hid ?_
          refine wpList_store_whole rfl _ _ _ rfl R2 _ _ #[.slice none 0 0, .bool false] rfl rfl HWn.out (by kernel_rfl) rfl (by simp [Value.oneCell']) ?_
          intro wz hwz hgz hsz
          have HWz := Lib.hid hwz
          have HBz : Hid (Below W.heap.size W wz) := Lib.hid (HBn.out.grown hgz HBn.out.size (fun k e => by cases e; rw [HR2.out]; exact Nat.le_refl _))
          clear hwz hgz hsz
          go_wp2_with fail
          try rw [Exit.noGoto_ret]
          exact bodyPost_ret (results_pair (k := 2) (j := 3) rfl Tryz.underlying31 rfl _ _ R2 [.slice none 0 0, .bool false] (by kernel_rfl) HWz.out rfl) rfl (HNone.out wz HBz.out)
        | some y0 =>
          obtain rfl : er = 0 := Her.out
          obtain rfl : y = y0 := Hy.out
          obtain ⟨n, Hn⟩ : ∃ n, Hid (n = es.length) := ⟨_, Lib.hid rfl⟩
          rw [← Hn.out] at hlv
          subst hlv
          have k40 : U.cell? ⟨R4, 0, none⟩ = some (.slice lo n lc) := HW4.out.cell 0
          have z40 : U.frozen? ⟨R4, 0, none⟩ = false := HW4.out.frozen 0
          by_cases hn4 : (n : Int) = 4
          · have hnb : ((n : Int) == 4) = true := by simp [hn4]
            have HNone := Lib.hid (HNone0.out (HNo.out _ HNx.out (Or.inr ⟨_, rfl, by show 4 < (es ++ [y]).length; rw [List.length_append, ← Hn.out]; simp; omega⟩)))
            clear hn4
            go_wp2_with (first
              | (with_reducible show wpList _ _ _ (Oper.mk _ (Op.store 31 _ _) _ _ _ _ :: _) _ _; refine Hid.out ?_))
            refine Lib.hid ?_
            refine wpList_store_whole rfl _ _ _ rfl R2 _ _ #[.slice none 0 0, .bool false] rfl rfl HWn.out (by kernel_rfl) rfl (by simp [Value.oneCell']) ?_
            intro wz hwz hgz hsz
            have HWz := Lib.hid hwz
            have HBz : Hid (Below W.heap.size W wz) := Lib.hid (HBn.out.grown hgz HBn.out.size (fun k e => by cases e; rw [HR2.out]; exact Nat.le_refl _))
            clear hwz hgz hsz
            go_wp2_with fail
            try rw [Exit.noGoto_ret]
            exact bodyPost_ret (results_pair (k := 2) (j := 3) rfl Tryz.underlying31 rfl _ _ R2 [.slice none 0 0, .bool false] (by kernel_rfl) HWz.out rfl) rfl (HNone.out wz HBz.out)
          · have hnb : ((n : Int) == 4) = false := by simp [hn4]
            have hn3 : n ≤ 3 := by have := Hn.out; omega
            obtain ⟨i1, hi1, hy0, hy1, hy2⟩ := info_parts info_evE
            have HSy : Hid (Sz y) := Lib.hid (sz_valid (parse_sound (Ho.out.symm)).1)
            have HBA : Hid (Below U.heap.size U (U.alloc (.cells (evC y).toArray 50))) := Lib.hid ((Below.refl _ _).alloc (Nat.le_refl _) _)
            have HWA := Lib.hid (whole_belowM HW4.out HBA.out)
            have HOA := Lib.hid (HOU.out.below HBA.out)
            have HOnA : Hid (Only (fun x => x = R4) wL (U.alloc (.cells (evC y).toArray 50))) := Lib.hid (HOnU.out.trans (Only.of_below _ HBA.out))
            have HNs := Lib.hid (news_list U 50 (evC y))
            have HOn : Hid (∀ u ∈ evC y, u.oneCell' = true) := Lib.hid (fun u hu => by have := List.all_eq_true.1 (by simpa using HOne.out) u hu; exact this)
            have hszA := HOnA.out.size
            have HEx : Hid (es.flatMap evC ++ evC y = (es ++ [y]).flatMap evC ∧ ∀ e ∈ es ++ [y], Sz e) := Lib.hid ⟨by simp, fun e he => by
              rcases List.mem_append.1 he with h | h
              · exact HOA.out.sz e h
              · rw [List.mem_singleton.1 h]; exact HSy.out⟩
            have HOr := Lib.hid HOA.out.row
            obtain ⟨y1, Hy1⟩ : ∃ z, Hid (z = y) := ⟨_, Lib.hid rfl⟩
            have HNx1 : Hid (progR (L.take (k + 1)) = some ⟨es ++ [y1], db⟩) := Lib.hid (by rw [HNx.out, Hy1.out]; rfl)
            obtain ⟨ec, Hec⟩ : ∃ z, Hid (z = es.flatMap evC) := ⟨_, Lib.hid rfl⟩
            rw [← Hec.out, ← Hn.out] at HOr
            have HTo : Hid (∀ (w4 : World) (v' : Value), w4.ownsRow wL.heap.size 50 14 v' (n + 1) (ec ++ evC y) → OwnE wL.heap.size w4 v' (es ++ [y1])) := Lib.hid (fun w4 v' ho => by
              rw [Hec.out, HEx.out.1, Hn.out] at ho
              rw [Hy1.out]
              exact ⟨by rw [List.length_append]; exact ho, HEx.out.2⟩)
            clear hn4 HEx HSy HOne HPs HNo HNx Ho Hy Hy1 HOA
            obtain ⟨x0, x1, x2, x3, x4, x5, x6, x7, x8, x9, xa, xb, xc, xd⟩ := y
            unfold evC at HWU HNs HOn HBA HWA HOnA HOr HTo hszA
            go_wp2_with (first
              | (with_reducible show wpList _ _ _ (Oper.mk _ (Op.load 50 _) _ _ _ _ :: _) _ _; refine wpList_load_mid rfl _ _ rfl g7 0 rfl _ _ HWU.out.range Tryz.underlying50 rfl (HSp.out.trans rfl) ?_)
              | (at_builtin; refine Hid.out ?_))
            refine Lib.hid ?_
            refine wpList_append_own _ rfl _ _ 26 rfl wL.heap.size 50 i1 _ 14 160 Tryz.underlying26 hi1 hy0 hy1 hy2 rfl (by decide) _ _ ec rfl HOr.out ⟨U.heap.size, 0, none⟩ 1 1 [.int .i64 x0, .int .i64 x1, .string x2, .string x3, .string x4, .string x5, .string x6, .string x7, .int .i64 x8, .int .i64 x9, .int .i64 xa, .int .i64 xb, .int .i64 xc, .int .i64 xd] rfl (by simp) HNs.out HOn.out (by unfold maxLen; omega) (by omega) hszA ?_
            intro v' w4 hown hgrow _
            obtain ⟨lo2, lc2, rfl⟩ := owns_shapeM hown
            have HO4 := Lib.hid (HTo.out _ _ hown)
            have HOn4 : Hid (Only (fun x => x = R4) wL w4) := Lib.hid (HOnA.out.next (G := fun j => Value.ownBlock _ = some j) (Only.of_grown hgrow fun j e => e) (fun j hj => Or.inr (HOr.out.lt j hj).1))
            have HW5 := Lib.hid (whole_grownM HWA.out hgrow (owns_wholeM HOr.out HWA.out (by decide)))
            clear hown hgrow hszA k40 z40
            have k50 : w4.cell? ⟨R4, 0, none⟩ = some (.slice lo _ lc) := HW5.out.cell 0
            have z50 : w4.frozen? ⟨R4, 0, none⟩ = false := HW5.out.frozen 0
            have hK2 : K ≤ 20001 := HK2.out
            go_wp2_with fail
            go_roundw
            case rel =>
              refine ⟨k + 1, .slice lo2 (n + 1) lc2, ⟨es ++ [y1], db⟩, by omega, by go_num, by rw [List.length_append, ← Hn.out]; show _ + 1 ≤ 4; omega, Lib.hid ⟨HOn4.out.setCell (Or.inl rfl) _, ?_, HO4.out.set HR4l.out _ _, HNx1.out⟩⟩
              exact HW5.out.set 0 _
            case measure => simp [intOf]; omega
    · obtain rfl : k = K := by omega
      have hd : decide ((k : Int) < k) = false := decide_eq_false (by omega)
      have hpr := HR.out.2.2.2
      rw [List.take_of_length_le (by rw [HKL.out]; exact Nat.le_refl _), HL.out] at hpr
      have HPc := Lib.hid (parseR_cand hpr)
      have HBr : Hid (Below W.heap.size W wr) := Lib.hid (HBL.out.trans (HR.out.1.below (by exact HBL.out.size) (by rintro _ rfl; have h1 := HR4.out; have h2 := HR2.out; omega)))
      have HWr2 : Hid (Whole wr R2 31 #[.slice none 0 0, .bool false]) := Lib.hid (HR.out.1.whole HWL2.out (by have := HR4.out; omega))
      obtain ⟨lo, lc, hlv, hil⟩ := HR.out.2.2.1.isL
      have hlc : es.length ≤ lc ∧ lc ≤ 9223372036854775807 := by
        rcases HR.out.2.2.1.row.2 with ⟨h1, h2⟩ | ⟨g, cap, cur, h1, -, -, h2, h3, -⟩
        · rw [hlv, Value.slice.injEq] at h1
          exact ⟨by omega, by omega⟩
        · rw [hlv, Value.slice.injEq] at h1
          rw [h1.2.2]
          exact ⟨h2, h3⟩
      have HIl := Lib.hid hil
      have HTx := Lib.hid (repText_any ⟨es, db⟩ lo lc hlc.1 hlc.2 wr (HT.out.1.below HBr.out) (HT.out.2.1.below HBr.out) hil)
      obtain ⟨tx, Htx⟩ : ∃ t, Hid (t = txR ⟨es, db⟩) := ⟨_, Lib.hid rfl⟩
      obtain ⟨vr, Hvr⟩ : ∃ t, Hid (t = validR ⟨es, db⟩) := ⟨_, Lib.hid rfl⟩
      obtain ⟨et, Het⟩ : ∃ z : Int, Hid (z = if vr then 0 else 1) := ⟨_, Lib.hid rfl⟩
      rw [← Htx.out, ← Hvr.out, ← Het.out] at HTx
      dsimp only at HTx
      have HLc := Lib.hid hlc
      obtain ⟨n, Hn⟩ : ∃ n, Hid (n = es.length) := ⟨_, Lib.hid rfl⟩
      rw [← Hn.out] at HTx hlv hes
      subst hlv
      have HWr4 : Hid (Whole wr R4 31 [Value.slice lo n lc, .bool db].toArray) := Lib.hid HR.out.2.1
      clear hpr hil hlc
      go_wp2_with (first
        | (with_reducible show wpList _ _ _ (Oper.mk _ (Op.load 31 _) _ _ _ _ :: _) _ _; refine wpList_load_mid rfl _ _ rfl R4 0 rfl _ _ (Whole.range HWr4.out) Tryz.underlying31 rfl (by kernel_rfl) ?_))
      refine HTx.out.mono ?_
      rintro e wt ⟨rfl, hb⟩
      have HBn := Lib.hid (below_step HBr.out hb)
      have HWn := Lib.hid (whole_belowM HWr2.out hb)
      have HW4 := Lib.hid (whole_belowM HWr4.out hb)
      have HOt := Lib.hid (HR.out.2.2.1.below hb)
      clear hb
      cases vr with
      | false =>
        obtain rfl : et = 1 := Het.out
        have HNone := Lib.hid (HNone0.out (by rw [HPc.out, if_neg]; rintro ⟨h, -⟩; rw [← Hvr.out] at h; cases h))
        go_wp2_with (first
          | (with_reducible show wpList _ _ _ (Oper.mk _ (Op.store 31 _ _) _ _ _ _ :: _) _ _; refine Hid.out ?_))
        refine Lib.hid ?_
        refine wpList_store_whole rfl _ _ _ rfl R2 _ _ #[.slice none 0 0, .bool false] rfl rfl HWn.out (by kernel_rfl) rfl (by simp [Value.oneCell']) ?_
        intro wz hwz hgz hsz
        have HWz := Lib.hid hwz
        have HBz : Hid (Below W.heap.size W wz) := Lib.hid (HBn.out.grown hgz HBn.out.size (fun k e => by cases e; rw [HR2.out]; exact Nat.le_refl _))
        clear hwz hgz hsz
        go_wp2_with fail
        try rw [Exit.noGoto_ret]
        exact bodyPost_ret (results_pair (k := 2) (j := 3) rfl Tryz.underlying31 rfl _ _ R2 [.slice none 0 0, .bool false] (by kernel_rfl) HWz.out rfl) rfl (HNone.out wz HBz.out)
      | true =>
        obtain rfl : et = 0 := Het.out
        have hvr := Hvr.out.symm
        have htx : tx = textR ⟨es, db⟩ := by rw [Htx.out]; unfold txR; rw [if_pos hvr]
        obtain ⟨q, hq⟩ : ∃ q, (tx.toList == s.toList) = q := ⟨_, rfl⟩
        have hq' : (tx.toList != s.toList) = !q := by rw [← hq]; rfl
        have hqs : q = decide (tx = s) := by
          rw [← hq]
          by_cases h : tx = s
          · rw [h, decide_eq_true rfl]; simp
          · rw [decide_eq_false h, ByteArray.toList_eq, ByteArray.toList_eq]
            exact beq_eq_false_iff_ne.2 fun e => h (by apply ByteArray.ext; apply Array.ext'; exact e)
        cases q with
        | false =>
          have HNone := Lib.hid (HNone0.out (by rw [HPc.out, if_neg]; rintro ⟨-, h⟩; rw [← htx] at h; exact of_decide_eq_false hqs.symm h))
          clear hvr htx hqs
          go_wp2_with (first
            | (with_reducible show wpList _ _ _ (Oper.mk _ (Op.store 31 _ _) _ _ _ _ :: _) _ _; refine Hid.out ?_))
          refine Lib.hid ?_
          refine wpList_store_whole rfl _ _ _ rfl R2 _ _ #[.slice none 0 0, .bool false] rfl rfl HWn.out (by kernel_rfl) rfl (by simp [Value.oneCell']) ?_
          intro wz hwz hgz hsz
          have HWz := Lib.hid hwz
          have HBz : Hid (Below W.heap.size W wz) := Lib.hid (HBn.out.grown hgz HBn.out.size (fun k e => by cases e; rw [HR2.out]; exact Nat.le_refl _))
          clear hwz hgz hsz
          go_wp2_with fail
          try rw [Exit.noGoto_ret]
          exact bodyPost_ret (results_pair (k := 2) (j := 3) rfl Tryz.underlying31 rfl _ _ R2 [.slice none 0 0, .bool false] (by kernel_rfl) HWz.out rfl) rfl (HNone.out wz HBz.out)
        | true =>
          have hps : parseR s = some ⟨es, db⟩ := by rw [HPc.out, if_pos ⟨hvr, by rw [← htx]; exact of_decide_eq_true hqs.symm⟩]
          have HYes : Hid (∀ wz, OwnE wL.heap.size wz (.slice lo n lc) es → Below W.heap.size W wz → RParse s W (.returned (.tuple #[.agg #[.slice lo n lc, .bool db], .int .i64 0])) wz) := Lib.hid (fun wz hz hz2 => by
            have e1 : rpOf s = ⟨es, db⟩ := by unfold rpOf; rw [hps]; rfl
            have e2 : reOf s = 0 := by unfold reOf; rw [hps]; rfl
            refine ⟨lo, lc, ?_, ?_, ?_, HLc.out.2, hz2⟩
            · rw [e1, e2, Hn.out]
            · rw [e1]
              obtain ⟨lo', lc', h1, h2⟩ := hz.isL
              rw [Value.slice.injEq] at h1
              rw [h1.1]
              exact h2
            · rw [e1]; exact HLc.out.1)
          clear hvr htx hqs hps
          go_wp2_with (first
            | (with_reducible show wpList _ _ _ (Oper.mk _ (Op.load 31 _) _ _ _ _ :: _) _ _; refine wpList_load_mid rfl _ _ rfl R4 0 rfl _ _ (Whole.range HW4.out) Tryz.underlying31 rfl (by kernel_rfl) ?_)
            | (with_reducible show wpList _ _ _ (Oper.mk _ (Op.store 31 _ _) _ _ _ _ :: _) _ _; refine Hid.out ?_))
          refine Lib.hid ?_
          refine wpList_store_whole rfl _ _ _ rfl R2 _ _ #[.slice lo n lc, .bool db] rfl rfl HWn.out (by kernel_rfl) rfl (by simp [Value.oneCell']) ?_
          intro wz hwz hgz hsz
          have HWz := Lib.hid hwz
          have HBz : Hid (Below W.heap.size W wz) := Lib.hid (HBn.out.grown hgz HBn.out.size (fun k e => by cases e; rw [HR2.out]; exact Nat.le_refl _))
          have HOz : Hid (OwnE wL.heap.size wz (.slice lo n lc) es) := Lib.hid ⟨HOt.out.row.kept hgz (Or.inr fun e => by
            have h1 := (HOt.out.row.lt R2 e).1
            have h2 := HR4l.out
            have h3 := HR4.out
            omega), HOt.out.sz⟩
          clear hwz hgz hsz
          go_wp2_with fail
          try rw [Exit.noGoto_ret]
          exact bodyPost_ret (results_pair (k := 2) (j := 3) rfl Tryz.underlying31 rfl _ _ R2 [.slice lo n lc, .bool db] (by kernel_rfl) HWz.out rfl) rfl (HYes.out wz HOz.out HBz.out)
end Go.Proofs.YtfkejnnbfneieaaGreatDoor
