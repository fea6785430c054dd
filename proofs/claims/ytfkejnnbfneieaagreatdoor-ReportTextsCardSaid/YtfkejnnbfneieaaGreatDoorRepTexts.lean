/- ReportTexts. -/
import Derived.Test.YtfkejnnbfneieaaGreatDoorRepParse
import Derived.Test.YtfkejnnbfneieaaGreatDoorRepHead
import Derived.Test.YtfkejnnbfneieaaGreatDoorRepFew
import Derived.Test.YtfkejnnbfneieaaGreatDoorRpSame
import Derived.Test.YtfkejnnbfneieaaGreatDoorEvEq
import Derived.Test.YtfkejnnbfneieaaGreatDoorJoin
namespace Go.Proofs.YtfkejnnbfneieaaGreatDoor
open Go.RowKit
open Evt

namespace Evt
theorem unl_len : ∀ {l : List Ev}, (∀ e ∈ l, (textE e).length ≤ 1000) → (unl (l.map textE)).length ≤ l.length * 1001
  | [], _ => Nat.le_refl _
  | x :: l, h => by
    have h1 := unl_len (l := l) fun e he => h e (by simp [he])
    have h2 := h x (by simp)
    have e : unl ((x :: l).map textE) = textE x ++ [10] ++ unl (l.map textE) := by simp [unl]
    rw [e, List.length_append, List.length_append, List.length_cons]
    simp only [List.length_cons, List.length_nil]
    omega
theorem textR_size {r : Rp} (h : validR r = true) : (textR r).size ≤ 20000 := by
  have h1 : (textR r).size = (textR r).data.toList.length := rfl
  have h2 := unl_len (l := r.opts) fun e he => textE_len (validR_each h e he)
  have h3 := (validR_len h).2
  have h4 : (headB r.doubt).data.toList.length ≤ 7 := headB_size r.doubt
  have e : (textR r).data.toList = (headB r.doubt).data.toList ++ [10] ++ unl (r.opts.map textE) := by
    unfold textR
    rw [bodyE_data]
    simp [unl]
  rw [h1, e, List.length_append, List.length_append]
  simp only [List.length_cons, List.length_nil]
  omega
end Evt
/-- A report in two cells. -/
def rpV (oo : Option Addr) (n c : Nat) (d : Bool) : List Value := [.slice oo n c, .bool d]
set_option maxRecDepth 100000 in
set_option maxHeartbeats 8000000 in
theorem rtexts_any (a : Rp) (oa : Option Addr) (ca : Nat) (ca1 : a.opts.length ≤ ca) (ca2 : ca ≤ 9223372036854775807) (b : Rp) (ob' : Option Addr) (cb : Nat) (cb1 : b.opts.length ≤ cb) (cb2 : cb ≤ 9223372036854775807) (s : ByteArray) (_ : s.size ≤ 140737488351232) (W : World)
    (hia : IsL 14 ElEv W oa a.opts) (hib : IsL 14 ElEv W ob' b.opts) (hT : WTab W) (ht : Tab W) (hE : Errs W) :
    Calls Tryz.prog 4 #[.agg #[.slice oa a.opts.length ca, .bool a.doubt], .agg #[.slice ob' b.opts.length cb, .bool b.doubt], .string s] W fun e w' => e = .returned (.bool true) ∧ Below W.heap.size W w' := by
  obtain ⟨y, Hy⟩ : ∃ y, Hid (y = rpOf s) := ⟨_, Lib.hid rfl⟩
  obtain ⟨py, Hpy⟩ : ∃ q, Hid (q = (parseR s).isSome) := ⟨_, Lib.hid rfl⟩
  obtain ⟨va, Hva⟩ : ∃ q, Hid (q = validR a) := ⟨_, Lib.hid rfl⟩
  obtain ⟨vb, Hvb⟩ : ∃ q, Hid (q = validR b) := ⟨_, Lib.hid rfl⟩
  obtain ⟨ta, Hta⟩ : ∃ q, Hid (q = txR a) := ⟨_, Lib.hid rfl⟩
  obtain ⟨tb, Htb⟩ : ∃ q, Hid (q = txR b) := ⟨_, Lib.hid rfl⟩
  have HT := Lib.hid (fun (w : World) (h : Below W.heap.size W w) => And.intro (hT.below h) (And.intro (ht.below h) (hE.below h)))
  have HIa := Lib.hid (fun (w : World) (h : Below W.heap.size W w) => hia.below stEv h)
  have HIb := Lib.hid (fun (w : World) (h : Below W.heap.size W w) => hib.below stEv h)
  have HTa := Lib.hid (fun (w : World) (h : Below W.heap.size W w) => repText_any a oa ca ca1 ca2 w (HT.out w h).1 (HT.out w h).2.1 (HIa.out w h))
  have HTb := Lib.hid (fun (w : World) (h : Below W.heap.size W w) => repText_any b ob' cb cb1 cb2 w (HT.out w h).1 (HT.out w h).2.1 (HIb.out w h))
  have HVa := Lib.hid (fun (w : World) (h : Below W.heap.size W w) => repValid_any a oa ca ca1 ca2 w (HIa.out w h))
  have Hae : Hid (va = false → ta = ⟨#[]⟩) := Lib.hid (fun h => by rw [Hta.out]; unfold txR; rw [if_neg (by rw [← Hva.out, h]; simp)])
  have HPa : Hid (va = true → ∀ w, Below W.heap.size W w → Calls Tryz.prog 9 #[.string ta] w fun e w' => ∃ oo oc, e = .returned (.tuple #[.agg #[.slice oo a.opts.length oc, .bool a.doubt], .int .i64 0]) ∧ IsL 14 ElEv w' oo a.opts ∧ Below w.heap.size w w') := Lib.hid (fun h w hw => by
    have hv : validR a = true := by rw [← Hva.out]; exact h
    have e1 : ta = textR a := by rw [Hta.out]; unfold txR; rw [if_pos hv]
    have hp : parseR ta = some a := by rw [e1]; exact parseR_text hv
    refine (repParse_any ta (by rw [e1]; exact textR_size hv) w (HT.out w hw).1 (HT.out w hw).2.1 (HT.out w hw).2.2).mono ?_
    rintro e w' ⟨oo, oc, h1, h2, -, -, h3⟩
    have e2 : rpOf ta = a := by unfold rpOf; rw [hp]; rfl
    have e3 : reOf ta = 0 := by unfold reOf; rw [hp]; rfl
    rw [e2, e3] at h1
    rw [e2] at h2
    exact ⟨oo, oc, h1, h2, h3⟩)
  have Heq : Hid (va = true → vb = true → (ta.toList == tb.toList) = rpB a b) := Lib.hid (fun h1 h2 => by
    have v1 : validR a = true := by rw [← Hva.out]; exact h1
    have v2 : validR b = true := by rw [← Hvb.out]; exact h2
    have e1 : ta = textR a := by rw [Hta.out]; unfold txR; rw [if_pos v1]
    have e2 : tb = textR b := by rw [Htb.out]; unfold txR; rw [if_pos v2]
    rw [Bool.eq_iff_iff, beq_iff_eq, rpB_iff, ByteArray.toList_eq, ByteArray.toList_eq, e1, e2]
    exact ⟨fun h => textR_inj v1 v2 (by apply ByteArray.ext; apply Array.ext'; exact h), fun h => by rw [h]⟩)
  have HSa : Hid (va = true → ∀ (w : World) (oo : Option Addr) (oc : Nat), Below W.heap.size W w → IsL 14 ElEv w oo a.opts → Calls Tryz.prog 12 #[.agg #[.slice oo a.opts.length oc, .bool a.doubt], .agg #[.slice oa a.opts.length ca, .bool a.doubt]] w fun e w' => e = .returned (.bool true) ∧ Below w.heap.size w w') := Lib.hid (fun h w oo oc hw hi => by
    have hl := (validR_len (r := a) (by rw [← Hva.out]; exact h)).2
    have := same13_any a a oo oa oc ca (by omega) (by omega) w hi (HIa.out w hw)
    rw [rpB_iff.2 rfl] at this
    exact this)
  have HSb : Hid (va = true → vb = true → ∀ (w : World), Below W.heap.size W w → Calls Tryz.prog 12 #[.agg #[.slice oa a.opts.length ca, .bool a.doubt], .agg #[.slice ob' b.opts.length cb, .bool b.doubt]] w fun e w' => e = .returned (.bool (rpB a b)) ∧ Below w.heap.size w w') := Lib.hid (fun h h' w hw => by
    have hl := (validR_len (r := a) (by rw [← Hva.out]; exact h)).2
    have hm := (validR_len (r := b) (by rw [← Hvb.out]; exact h')).2
    exact same13_any a b oa ob' ca cb (by omega) (by omega) w (HIa.out w hw) (HIb.out w hw))
  have HP : Hid (s.size ≤ 3000 → ∀ w, Below W.heap.size W w → Calls Tryz.prog 9 #[.string s] w fun e w' => ∃ oo oc, e = .returned (.tuple #[.agg #[.slice oo y.opts.length oc, .bool y.doubt], .int .i64 (if py then 0 else 8)]) ∧ IsL 14 ElEv w' oo y.opts ∧ y.opts.length ≤ oc ∧ oc ≤ 9223372036854775807 ∧ Below w.heap.size w w') := Lib.hid (fun h w hw => by
    refine (repParse_any s (by omega) w (HT.out w hw).1 (HT.out w hw).2.1 (HT.out w hw).2.2).mono ?_
    rintro e w' hh
    rw [Hy.out, Hpy.out]
    exact hh)
  have HPz : Hid (py = false → y.opts.length = 0) := Lib.hid (fun h => by
    rw [Hpy.out] at h
    rw [Hy.out]
    unfold rpOf
    cases hq : parseR s with
    | none => rfl
    | some r => rw [hq] at h; cases h)
  have hsome : py = true → validR y = true ∧ textR y = s := fun h => by
    rw [Hpy.out] at h
    obtain ⟨r, hr⟩ := Option.isSome_iff_exists.1 h
    have : y = r := by rw [Hy.out]; unfold rpOf; rw [hr]; rfl
    rw [this]
    exact parseR_sound hr
  have HTy : Hid (py = true → ∀ (oo : Option Addr) (oc : Nat), y.opts.length ≤ oc → oc ≤ 9223372036854775807 → ∀ w, Below W.heap.size W w → IsL 14 ElEv w oo y.opts → Calls Tryz.prog 13 #[.agg #[.slice oo y.opts.length oc, .bool y.doubt]] w fun e w' => e = .returned (.tuple #[.string s, .int .i64 0]) ∧ Below w.heap.size w w') := Lib.hid (fun h oo oc h1 h2 w hw hi => by
    obtain ⟨hv, htx⟩ := hsome h
    have := repText_any y oo oc h1 h2 w (HT.out w hw).1 (HT.out w hw).2.1 hi
    have e : txR y = s := by unfold txR; rw [if_pos hv]; exact htx
    rw [e, hv] at this
    exact this)
  have HVy : Hid (py = true → ∀ (oo : Option Addr) (oc : Nat), y.opts.length ≤ oc → oc ≤ 9223372036854775807 → ∀ w, IsL 14 ElEv w oo y.opts → Calls Tryz.prog 15 #[.agg #[.slice oo y.opts.length oc, .bool y.doubt]] w fun e w' => e = .returned (.bool true) ∧ Below w.heap.size w w') := Lib.hid (fun h oo oc h1 h2 w hi => by
    have := repValid_any y oo oc h1 h2 w hi
    rw [(hsome h).1] at this
    exact this)
  have HFw := Lib.hid (fun (w : World) (g : Nat) (h : Below W.heap.size W w) (hg : Whole w g 31 #[.slice oa a.opts.length ca, .bool a.doubt, .slice ob' b.opts.length cb, .bool b.doubt]) => fewLaw_any (some ⟨g, 0, none⟩) [a, b] 2 (by simp) none 0 0 (by omega) w (IsL.whole (t := 31) (css := [[.slice oa a.opts.length ca, .bool a.doubt], [.slice ob' b.opts.length cb, .bool b.doubt]]) (by simpa using hg) rfl (by simp) (fun k hk hk' => by
    have hk2 : k = 0 ∨ k = 1 := by simp at hk; omega
    rcases hk2 with rfl | rfl
    · exact ⟨oa, ca, rfl, HIa.out w h, ca1, ca2⟩
    · exact ⟨ob', cb, rfl, HIb.out w h, cb1, cb2⟩)))
  rw [← Hta.out, ← Hva.out] at HTa
  rw [← Htb.out, ← Hvb.out] at HTb
  rw [← Hva.out] at HVa
  obtain ⟨na, Hna⟩ : ∃ n, Hid (n = a.opts.length) := ⟨_, Lib.hid rfl⟩
  obtain ⟨nb, Hnb⟩ : ∃ n, Hid (n = b.opts.length) := ⟨_, Lib.hid rfl⟩
  obtain ⟨da, Hda⟩ : ∃ n, Hid (n = a.doubt) := ⟨_, Lib.hid rfl⟩
  obtain ⟨db, Hdb⟩ : ∃ n, Hid (n = b.doubt) := ⟨_, Lib.hid rfl⟩
  rw [← Hna.out, ← Hda.out] at HTa HVa HPa HSa HSb HFw ⊢
  rw [← Hnb.out, ← Hdb.out] at HTb HSb HFw ⊢
  obtain ⟨V1, HV1⟩ : ∃ w, Hid (w = W.alloc (.cells #[.slice oa na ca, .bool da] 31)) := ⟨_, Lib.hid rfl⟩
  obtain ⟨NA, HNA⟩ : ∃ N, Hid (N = W.heap.size) := ⟨_, Lib.hid rfl⟩
  obtain ⟨V, HV⟩ : ∃ w, Hid (w = V1.alloc (.cells #[.slice ob' nb cb, .bool db] 31)) := ⟨_, Lib.hid rfl⟩
  obtain ⟨NB, HNB⟩ : ∃ N, Hid (N = NA + 1) := ⟨_, Lib.hid rfl⟩
  have hB1 : Below W.heap.size W V1 := by rw [HV1.out]; exact (Below.refl _ _).alloc (Nat.le_refl _) _
  have hB2 : Below V1.heap.size V1 V := by rw [HV.out]; exact (Below.refl _ _).alloc (Nat.le_refl _) _
  have HWA : Hid (Whole V NA 31 [Value.slice oa na ca, .bool da].toArray) := Lib.hid (whole_belowM (by rw [HV1.out, HNA.out]; exact Whole.new _ _ _) hB2)
  have HWB : Hid (Whole V NB 31 [Value.slice ob' nb cb, .bool db].toArray) := Lib.hid (by rw [HV.out]; exact Whole.newAt _ _ (by rw [HNB.out, HNA.out, HV1.out]; simp))
  have HB := Lib.hid (below_step hB1 hB2)
  have HH := Lib.hid (head13_any V (HT.out V HB.out).1 (HT.out V HB.out).2.1)
  clear hT ht hE hia hib ca1 ca2 cb1 cb2 hsome hB1 hB2
  go_enter Tryz.func4, Tryz.ntmps4
  go_wp2_with fail
  rw [← HV1.out, ← HV.out, ← HNA.out, ← HNB.out]
  refine HH.out.mono ?_
  rintro e w1 ⟨rfl, hb⟩
  have HB1 := Lib.hid (below_step HB.out hb)
  have HA1 := Lib.hid (whole_belowM HWA.out hb)
  have HK1 := Lib.hid (whole_belowM HWB.out hb)
  clear hb
  have a0 : w1.cell? ⟨NA, 0, none⟩ = some (.slice oa na ca) := HA1.out.cell 0
  have a1 : w1.cell? ⟨NA, 1, none⟩ = some (.bool da) := HA1.out.cell 1
  have b0 : w1.cell? ⟨NB, 0, none⟩ = some (.slice ob' nb cb) := HK1.out.cell 0
  have b1 : w1.cell? ⟨NB, 1, none⟩ = some (.bool db) := HK1.out.cell 1
  obtain ⟨g, Hg⟩ : ∃ g, Hid (g = w1.heap.size) := ⟨_, Lib.hid rfl⟩
  obtain ⟨w2, Hw2⟩ : ∃ w, Hid (w = w1.alloc (.cells #[.slice oa na ca, .bool da, .slice ob' nb cb, .bool db] 31)) := ⟨_, Lib.hid rfl⟩
  have Hb2 : Hid (Below w1.heap.size w1 w2) := Lib.hid (by rw [Hw2.out]; exact (Below.refl _ _).alloc (Nat.le_refl _) _)
  have HB2 := Lib.hid (below_step HB1.out Hb2.out)
  have HA2 := Lib.hid (whole_belowM HA1.out Hb2.out)
  have HK2 := Lib.hid (whole_belowM HK1.out Hb2.out)
  have HF2 := Lib.hid (HFw.out w2 g HB2.out (by rw [Hw2.out, Hg.out]; exact Whole.new _ _ _))
  go_wp2_with fail
  rw [← Hw2.out, ← Hg.out]
  clear a0 a1 b0 b1
  refine HF2.out.mono ?_
  rintro e w3 ⟨q, rfl, -, hb⟩
  have HB3 := Lib.hid (below_step HB2.out hb)
  have HA3 := Lib.hid (whole_belowM HA2.out hb)
  have HK3 := Lib.hid (whole_belowM HK2.out hb)
  clear hb
  cases q with
  | false =>
    go_wp2_with fail
    go_ret
    exact ⟨rfl, HB3.out⟩
  | true =>
  obtain ⟨bl, hbl⟩ : ∃ b, decide (3000 < (s.size : Int)) = b := ⟨_, rfl⟩
  cases bl with
  | true =>
    go_wp2_with fail
    go_ret
    exact ⟨rfl, HB3.out⟩
  | false =>
  have HPs := Lib.hid (HP.out (by have := of_decide_eq_false hbl; omega))
  clear HP
  have HTw := HTa.out w3 HB3.out
  obtain ⟨ea, Hea⟩ : ∃ z : Int, Hid (z = if va then 0 else 1) := ⟨_, Lib.hid rfl⟩
  rw [← Hea.out] at HTw
  go_wp2_with (first
    | (with_reducible show wpList _ _ _ (Oper.mk _ (Op.load 31 _) _ _ _ _ :: _) _ _; refine wpList_load_mid rfl _ _ rfl NA 0 rfl _ _ (Whole.range HA3.out) Tryz.underlying31 rfl (by kernel_rfl) ?_))
  refine HTw.mono ?_
  rintro e w4 ⟨rfl, hb⟩
  have HB4 := Lib.hid (below_step HB3.out hb)
  have HA4 := Lib.hid (whole_belowM HA3.out hb)
  have HK4 := Lib.hid (whole_belowM HK3.out hb)
  clear hb HTw hbl
  have HTw := HTb.out w4 HB4.out
  obtain ⟨eb, Heb⟩ : ∃ z : Int, Hid (z = if vb then 0 else 1) := ⟨_, Lib.hid rfl⟩
  rw [← Heb.out] at HTw
  go_wp2_with (first
    | (with_reducible show wpList _ _ _ (Oper.mk _ (Op.load 31 _) _ _ _ _ :: _) _ _; refine wpList_load_mid rfl _ _ rfl NB 0 rfl _ _ (Whole.range HK4.out) Tryz.underlying31 rfl (by kernel_rfl) ?_))
  refine HTw.mono ?_
  rintro e w5 ⟨rfl, hb⟩
  have HB5 := Lib.hid (below_step HB4.out hb)
  have HA5 := Lib.hid (whole_belowM HA4.out hb)
  have HK5 := Lib.hid (whole_belowM HK4.out hb)
  clear hb HTw
  have HVw := HVa.out w5 HB5.out
  cases va with
  | false =>
    obtain rfl := Hae.out (by trivial)
    obtain rfl : ea = 1 := Hea.out
    go_wp2_with (first
      | (with_reducible show wpList _ _ _ (Oper.mk _ (Op.load 31 _) _ _ _ _ :: _) _ _; refine wpList_load_mid rfl _ _ rfl NA 0 rfl _ _ (Whole.range HA5.out) Tryz.underlying31 rfl (by kernel_rfl) ?_))
    refine HVw.mono ?_
    rintro e wR ⟨rfl, hb⟩
    have HBR := Lib.hid (below_step HB5.out hb)
    clear hb HVw
    have HPw := HPs.out wR HBR.out
    obtain ⟨pe, Hpe⟩ : ∃ z : Int, Hid (z = if py then 0 else 8) := ⟨_, Lib.hid rfl⟩
    rw [← Hpe.out] at HPw
    go_wp2_with fail
    refine HPw.mono ?_
    rintro e wP ⟨yo, yc, rfl, hyl, hyc1, hyc2, hb⟩
    have HBP := Lib.hid (below_step HBR.out hb)
    have HYl := Lib.hid hyl
    clear hb hyl HPw
    obtain ⟨ny, Hny⟩ : ∃ n, Hid (n = y.opts.length) := ⟨_, Lib.hid rfl⟩
    obtain ⟨dy, Hdy⟩ : ∃ n, Hid (n = y.doubt) := ⟨_, Lib.hid rfl⟩
    have HTy1 := Lib.hid (fun (h : py = true) (w : World) (hw : Below W.heap.size W w) (hi : IsL 14 ElEv w yo y.opts) => HTy.out h yo yc hyc1 hyc2 w hw hi)
    have HVy1 := Lib.hid (fun (h : py = true) (w : World) (hi : IsL 14 ElEv w yo y.opts) => HVy.out h yo yc hyc1 hyc2 w hi)
    have HPz1 := HPz.out
    rw [← Hny.out, ← Hdy.out] at HTy1 HVy1 ⊢
    rw [← Hny.out] at HPz1
    have HPz1 := Lib.hid HPz1
    clear hyc1 hyc2
    obtain ⟨gy, Hgy⟩ : ∃ g, Hid (g = wP.heap.size) := ⟨_, Lib.hid rfl⟩
    obtain ⟨Y, HY⟩ : ∃ w, Hid (w = wP.alloc (.cells #[.slice yo ny yc, .bool dy] 31)) := ⟨_, Lib.hid rfl⟩
    have HWY : Hid (Whole Y gy 31 [Value.slice yo ny yc, .bool dy].toArray) := Lib.hid (by rw [HY.out]; exact Whole.newAt _ _ Hgy.out)
    have HbY : Hid (Below wP.heap.size wP Y) := Lib.hid (by rw [HY.out]; exact (Below.refl _ _).alloc (Nat.le_refl _) _)
    have HBY := Lib.hid (below_step HBP.out HbY.out)
    have HIY := Lib.hid (HYl.out.below stEv HbY.out)
    go_wp2_with (first
      | (with_reducible show wpList _ _ _ (Oper.mk _ (Op.store 31 _ _) _ _ _ _ :: _) _ _; refine Hid.out ?_))
    refine Lib.hid ?_
    refine wpList_store_new rfl _ _ _ rfl _ #[.slice yo ny yc, .bool dy] rfl rfl (by kernel_rfl) rfl (by simp [Value.oneCell']) ?_
    rw [← HY.out, ← Hgy.out]
    cases py with
    | false =>
      obtain rfl : pe = 8 := Hpe.out
      obtain rfl : ny = 0 := HPz1.out (by trivial)
      have y0 : Y.cell? ⟨gy, 0, none⟩ = some (.slice yo 0 yc) := HWY.out.cell 0
      go_wp2_with fail
      go_ret
      exact ⟨rfl, HBY.out⟩
    | true =>
    obtain rfl : pe = 0 := Hpe.out
    have HTw := HTy1.out (by trivial) Y HBY.out HIY.out
    go_wp2_with (first
      | (with_reducible show wpList _ _ _ (Oper.mk _ (Op.load 31 _) _ _ _ _ :: _) _ _; refine wpList_load_mid rfl _ _ rfl gy 0 rfl _ _ (Whole.range HWY.out) Tryz.underlying31 rfl (by kernel_rfl) ?_))
    refine HTw.mono ?_
    rintro e wT ⟨rfl, hb⟩
    have HBT := Lib.hid (below_step HBY.out hb)
    have HWT := Lib.hid (whole_belowM HWY.out hb)
    have HVw := HVy1.out (by trivial) wT (HIY.out.below stEv hb)
    clear hb HTw
    go_wp2_with (first
      | (with_reducible show wpList _ _ _ (Oper.mk _ (Op.load 31 _) _ _ _ _ :: _) _ _; refine Hid.out ?_))
    refine Lib.hid ?_
    refine wpList_load_yes (by kernel_rfl) _ _ rfl gy 0 rfl _ _ (Whole.range HWT.out) Tryz.underlying31 rfl (by kernel_rfl) ?_
    go_wp2_with fail
    refine HVw.mono ?_
    rintro e wU ⟨rfl, hb⟩
    have HBU := Lib.hid (below_step HBT.out hb)
    clear hb
    go_wp2_with fail
    go_ret
    exact ⟨rfl, HBU.out⟩
  | true =>
    obtain rfl : ea = 0 := Hea.out
    go_wp2_with (first
      | (with_reducible show wpList _ _ _ (Oper.mk _ (Op.load 31 _) _ _ _ _ :: _) _ _; refine wpList_load_mid rfl _ _ rfl NA 0 rfl _ _ (Whole.range HA5.out) Tryz.underlying31 rfl (by kernel_rfl) ?_))
    refine HVw.mono ?_
    rintro e w6 ⟨rfl, hb⟩
    have HB6 := Lib.hid (below_step HB5.out hb)
    have HA6 := Lib.hid (whole_belowM HA5.out hb)
    have HK6 := Lib.hid (whole_belowM HK5.out hb)
    clear hb HVw
    have HPw := HPa.out (by trivial) w6 HB6.out
    go_wp2_with fail
    refine HPw.mono ?_
    rintro e w7 ⟨xo, xc, rfl, hxl, hb⟩
    have HB7 := Lib.hid (below_step HB6.out hb)
    have HA7 := Lib.hid (whole_belowM HA6.out hb)
    have HK7 := Lib.hid (whole_belowM HK6.out hb)
    have HXl := Lib.hid hxl
    clear hb HPw hxl
    obtain ⟨gc, Hgc⟩ : ∃ g, Hid (g = w7.heap.size) := ⟨_, Lib.hid rfl⟩
    obtain ⟨w8, Hw8⟩ : ∃ w, Hid (w = w7.alloc (.cells #[.slice xo na xc, .bool da] 31)) := ⟨_, Lib.hid rfl⟩
    have HWC : Hid (Whole w8 gc 31 [Value.slice xo na xc, .bool da].toArray) := Lib.hid (by rw [Hw8.out]; exact Whole.newAt _ _ Hgc.out)
    have HBq : Hid (Below w7.heap.size w7 w8) := Lib.hid (by rw [Hw8.out]; exact (Below.refl _ _).alloc (Nat.le_refl _) _)
    have HB8 := Lib.hid (below_step HB7.out HBq.out)
    have HA8 := Lib.hid (whole_belowM HA7.out HBq.out)
    have HK8 := Lib.hid (whole_belowM HK7.out HBq.out)
    have HSw := Lib.hid (HSa.out (by trivial) w8 xo xc HB8.out (HXl.out.below stEv HBq.out))
    go_wp2_with (first
      | (with_reducible show wpList _ _ _ (Oper.mk _ (Op.store 31 _ _) _ _ _ _ :: _) _ _; refine Hid.out ?_))
    refine Lib.hid ?_
    refine wpList_store_new rfl _ _ _ rfl _ #[.slice xo na xc, .bool da] rfl rfl (by kernel_rfl) rfl (by simp [Value.oneCell']) ?_
    rw [← Hw8.out, ← Hgc.out]
    go_wp2_with (first
      | (with_reducible show wpList _ _ _ (Oper.mk _ (Op.load 31 _) _ _ _ _ :: _) _ _; refine Hid.out ?_))
    refine Lib.hid ?_
    refine wpList_join (fun u w' => u 80 = .bool false ∧ Hid (Below W.heap.size W w')) [63, 64, 65, 66, 67, 68, 69, 70, 71, 72, 73, 74, 75, 76, 77, 78, 79, 80] (by kernel_rfl) ?_ ?_
    · refine wpList_load_yes (by kernel_rfl) _ _ rfl gc 0 rfl _ _ (Whole.range HWC.out) Tryz.underlying31 rfl (by kernel_rfl) ?_
      refine wpList_load_yes (by kernel_rfl) _ _ rfl NA 0 rfl _ _ (Whole.range HA8.out) Tryz.underlying31 rfl (by kernel_rfl) ?_
      go_wp2_with fail
      refine HSw.out.mono ?_
      rintro e w9 ⟨rfl, hb⟩
      have HB9 := Lib.hid (below_step HB8.out hb)
      have HA9 := Lib.hid (whole_belowM HA8.out hb)
      have HK9 := Lib.hid (whole_belowM HK8.out hb)
      clear hb
      cases vb with
      | false =>
        obtain rfl : eb = 1 := Heb.out
        go_wp2_with fail
        exact join_end rfl ⟨rfl, HB9.out⟩
      | true =>
        obtain rfl : eb = 0 := Heb.out
        obtain ⟨q, Hq⟩ : ∃ q, Hid (q = rpB a b) := ⟨_, Lib.hid rfl⟩
        have HSx := HSb.out (by trivial) (by trivial) w9 HB9.out
        rw [← Hq.out] at HSx
        have HSx := Lib.hid HSx
        have hst : (ta.toList == tb.toList) = q := by rw [Hq.out]; exact Heq.out (by trivial) (by trivial)
        go_wp2_with (first
          | (with_reducible show wpList _ _ _ (Oper.mk _ (Op.load 31 _) _ _ _ _ :: _) _ _; refine Hid.out ?_))
        refine Lib.hid ?_
        refine wpList_load_yes (by kernel_rfl) _ _ rfl NA 0 rfl _ _ (Whole.range HA9.out) Tryz.underlying31 rfl (by kernel_rfl) ?_
        refine wpList_load_yes (by kernel_rfl) _ _ rfl NB 0 rfl _ _ (Whole.range HK9.out) Tryz.underlying31 rfl (by kernel_rfl) ?_
        clear hst
        go_wp2_with fail
        refine HSx.out.mono ?_
        rintro e w10 ⟨rfl, hb⟩
        have HB10 := Lib.hid (below_step HB9.out hb)
        clear hb
        cases q
        all_goals
          go_wp2_with fail
          exact join_end rfl ⟨rfl, HB10.out⟩
    rintro u wR ⟨eu, HBR⟩
    simp only [refill, eu]
    clear eu
    go_simp
    have HPw := HPs.out wR HBR.out
    obtain ⟨pe, Hpe⟩ : ∃ z : Int, Hid (z = if py then 0 else 8) := ⟨_, Lib.hid rfl⟩
    rw [← Hpe.out] at HPw
    go_wp2_with fail
    refine HPw.mono ?_
    rintro e wP ⟨yo, yc, rfl, hyl, hyc1, hyc2, hb⟩
    have HBP := Lib.hid (below_step HBR.out hb)
    have HYl := Lib.hid hyl
    clear hb hyl HPw
    obtain ⟨ny, Hny⟩ : ∃ n, Hid (n = y.opts.length) := ⟨_, Lib.hid rfl⟩
    obtain ⟨dy, Hdy⟩ : ∃ n, Hid (n = y.doubt) := ⟨_, Lib.hid rfl⟩
    have HTy1 := Lib.hid (fun (h : py = true) (w : World) (hw : Below W.heap.size W w) (hi : IsL 14 ElEv w yo y.opts) => HTy.out h yo yc hyc1 hyc2 w hw hi)
    have HVy1 := Lib.hid (fun (h : py = true) (w : World) (hi : IsL 14 ElEv w yo y.opts) => HVy.out h yo yc hyc1 hyc2 w hi)
    have HPz1 := HPz.out
    rw [← Hny.out, ← Hdy.out] at HTy1 HVy1 ⊢
    rw [← Hny.out] at HPz1
    have HPz1 := Lib.hid HPz1
    clear hyc1 hyc2
    obtain ⟨gy, Hgy⟩ : ∃ g, Hid (g = wP.heap.size) := ⟨_, Lib.hid rfl⟩
    obtain ⟨Y, HY⟩ : ∃ w, Hid (w = wP.alloc (.cells #[.slice yo ny yc, .bool dy] 31)) := ⟨_, Lib.hid rfl⟩
    have HWY : Hid (Whole Y gy 31 [Value.slice yo ny yc, .bool dy].toArray) := Lib.hid (by rw [HY.out]; exact Whole.newAt _ _ Hgy.out)
    have HbY : Hid (Below wP.heap.size wP Y) := Lib.hid (by rw [HY.out]; exact (Below.refl _ _).alloc (Nat.le_refl _) _)
    have HBY := Lib.hid (below_step HBP.out HbY.out)
    have HIY := Lib.hid (HYl.out.below stEv HbY.out)
    go_wp2_with (first
      | (with_reducible show wpList _ _ _ (Oper.mk _ (Op.store 31 _ _) _ _ _ _ :: _) _ _; refine Hid.out ?_))
    refine Lib.hid ?_
    refine wpList_store_new rfl _ _ _ rfl _ #[.slice yo ny yc, .bool dy] rfl rfl (by kernel_rfl) rfl (by simp [Value.oneCell']) ?_
    rw [← HY.out, ← Hgy.out]
    cases py with
    | false =>
      obtain rfl : pe = 8 := Hpe.out
      obtain rfl : ny = 0 := HPz1.out (by trivial)
      have y0 : Y.cell? ⟨gy, 0, none⟩ = some (.slice yo 0 yc) := HWY.out.cell 0
      go_wp2_with fail
      go_ret
      exact ⟨rfl, HBY.out⟩
    | true =>
    obtain rfl : pe = 0 := Hpe.out
    have HTw := HTy1.out (by trivial) Y HBY.out HIY.out
    go_wp2_with (first
      | (with_reducible show wpList _ _ _ (Oper.mk _ (Op.load 31 _) _ _ _ _ :: _) _ _; refine wpList_load_mid rfl _ _ rfl gy 0 rfl _ _ (Whole.range HWY.out) Tryz.underlying31 rfl (by kernel_rfl) ?_))
    refine HTw.mono ?_
    rintro e wT ⟨rfl, hb⟩
    have HBT := Lib.hid (below_step HBY.out hb)
    have HWT := Lib.hid (whole_belowM HWY.out hb)
    have HVw := HVy1.out (by trivial) wT (HIY.out.below stEv hb)
    clear hb HTw
    go_wp2_with (first
      | (with_reducible show wpList _ _ _ (Oper.mk _ (Op.load 31 _) _ _ _ _ :: _) _ _; refine Hid.out ?_))
    refine Lib.hid ?_
    refine wpList_load_yes (by kernel_rfl) _ _ rfl gy 0 rfl _ _ (Whole.range HWT.out) Tryz.underlying31 rfl (by kernel_rfl) ?_
    go_wp2_with fail
    refine HVw.mono ?_
    rintro e wU ⟨rfl, hb⟩
    have HBU := Lib.hid (below_step HBT.out hb)
    clear hb
    go_wp2_with fail
    go_ret
    exact ⟨rfl, HBU.out⟩
end Go.Proofs.YtfkejnnbfneieaaGreatDoor
