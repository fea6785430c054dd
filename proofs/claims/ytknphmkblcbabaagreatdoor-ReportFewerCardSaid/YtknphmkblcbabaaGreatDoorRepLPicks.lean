/- ReportPicks. -/
import Derived.Test.YtknphmkblcbabaaGreatDoorRepHeadW
import Derived.Test.YtknphmkblcbabaaGreatDoorRepFew
namespace Go.Proofs.YtknphmkblcbabaaGreatDoor
open Go.RowKit Go.Sort
open Evt

namespace Evt
noncomputable def rt (l : List Rp) (cs : List Int) (k : Nat) : Bool := decide (l.length = cs.length) && pkAll l cs k
theorem pkOk_eq (r : Rp) (c : Int) : pkOk r c = (validR r && (decide (0 ≤ c) && decide (c < choices r))) := by
  unfold pkOk
  rw [Bool.eq_iff_iff]
  cases hv : validR r with
  | false =>
    have h0 : choices r = 0 := by unfold choices; rw [hv]; rfl
    rw [h0]
    simp only [Bool.and_eq_true, Bool.not_eq_true', decide_eq_false_iff_not, decide_eq_true_eq]
    constructor
    · rintro ⟨h1, h2⟩; omega
    · rintro ⟨h1, _⟩; cases h1
  | true =>
    simp only [Bool.and_eq_true, Bool.not_eq_true', decide_eq_false_iff_not, decide_eq_true_eq, true_and]
    omega
theorem rt_next {l : List Rp} {cs : List Int} {k : Nat} (h1 : k < l.length) (h2 : k < cs.length) : rt l cs (k + 1) = (rt l cs k && (validR l[k] && (decide (0 ≤ cs[k]) && decide (cs[k] < choices l[k])))) := by
  unfold rt
  rw [pkAll_next h1 h2, pkOk_eq, Bool.and_assoc]
theorem rt_len {l : List Rp} {cs : List Int} (h : l.length ≠ cs.length) (k : Nat) : rt l cs k = false := by
  unfold rt
  rw [decide_eq_false h]
  rfl
theorem rt_lenT {l : List Rp} {cs : List Int} {k : Nat} (h : rt l cs k = true) : l.length = cs.length := by
  unfold rt at h
  rw [Bool.and_eq_true] at h
  exact of_decide_eq_true h.1
theorem rt_end (l : List Rp) (cs : List Int) : pickB l cs = rt l cs l.length := rfl
theorem rt_at {l : List Rp} {cs : List Int} (h : rt l cs l.length = true) {k : Nat} (h1 : k < l.length) (h2 : k < cs.length) : pkOk l[k] cs[k] = true := by
  cases hq : pkOk l[k] cs[k] with
  | true => rfl
  | false =>
    have := pkAll_no h1 h2 hq
    rw [rt_end, h] at this
    cases this
theorem choices_yes {r : Rp} (h : validR r = true) : choices r = (r.opts.length : Int) + (if r.doubt then 1 else 0) := by
  unfold choices
  rw [h, if_pos rfl]
  cases r.doubt <;> simp
theorem choices_no {r : Rp} (h : validR r = false) : choices r = 0 := by unfold choices; rw [h]; rfl
theorem pkd_split {l : List Rp} {cs : List Int} {k m : Nat} (h : k ≤ m) : ∃ r, pkd l cs m = pkd l cs k ++ r := by
  unfold pkd
  refine ⟨(((l.zip cs).take m).drop k).flatMap fun p => pk p.1 p.2, ?_⟩
  rw [← List.flatMap_append]
  congr 1
  have := List.take_append_drop k ((l.zip cs).take m)
  rw [List.take_take, Nat.min_eq_left h] at this
  exact this.symm
theorem pkd_at {l : List Rp} {cs : List Int} {k : Nat} (h1 : k < l.length) (h2 : k < cs.length) {x : Ev} (hx : l[k].opts[cs[k].toNat]? = some x) : (pkd l cs l.length)[(pkd l cs k).length]? = some x := by
  obtain ⟨r, hr⟩ := pkd_split (l := l) (cs := cs) (k := k + 1) (m := l.length) (by omega)
  rw [hr, pkd_next h1 h2]
  unfold pk
  rw [hx]
  simp
theorem pkd_step {l : List Rp} {cs : List Int} {k : Nat} (h1 : k < l.length) (h2 : k < cs.length) : (pkd l cs (k + 1)).length = (pkd l cs k).length + (pk l[k] cs[k]).length := by rw [pkd_next h1 h2, List.length_append]
end Evt
theorem OwnE.at {B : Nat} {w : World} {v : Value} {es : List Ev} (h : OwnE B w v es) {k : Nat} (hk : k < es.length) : ∃ g c, v = .slice (some ⟨g, 0, none⟩) es.length c ∧ g < w.heap.size ∧ w.rangeAt g (0 + k * 14) (evC es[k]) ∧ Sz es[k] := by
  obtain ⟨ao, c, rfl, hl⟩ := h.isL
  obtain ⟨bk, off, cs, e, hb, hr, rfl, hs⟩ := hl.at hk
  rcases h.row.2 with ⟨e1, h0⟩ | ⟨g, cap, cur, e1, _⟩
  · exfalso; omega
  · injection e1 with e2 _ _
    rw [e] at e2
    injection e2 with e2
    injection e2 with e3 e4
    subst e3 e4
    exact ⟨_, c, by rw [e], hb, hr, hs⟩

def pkaP (bk off k m cap ck coff cc q on oc : Nat) (oo : Option Addr) (z : Int) : Nat → Value → World → Prop
  | 0, v, _ => v = .slice (some ⟨ck, coff, none⟩) m cc
  | 1, v, _ => v = .int .i64 q
  | 2, v, _ => v = .pointer (some ⟨ck, coff + q * 1, none⟩)
  | 3, v, _ => v = .int .i64 z
  | 4, v, _ => v = .slice (some ⟨bk, off, none⟩) k cap
  | 5, v, _ => v = .int .i64 q
  | 6, v, _ => v = .pointer (some ⟨bk, off + q * 2, none⟩)
  | 7, v, _ => v = .pointer (some ⟨bk, off + q * 2, none⟩)
  | 8, v, _ => v = .slice oo on oc
  | 9, v, _ => v = .int .i64 on
  | 10, v, _ => v = .bool (z == on)
  | _, _, _ => True
theorem pkaP_below {bk off k m cap ck coff cc q on oc : Nat} {oo : Option Addr} {z : Int} : ∀ j u w w', pkaP bk off k m cap ck coff cc q on oc oo z j u w → Below w.heap.size w w' → pkaP bk off k m cap ck coff cc q on oc oo z j u w'
  | 0, _, _, _, h, _ => h
  | 1, _, _, _, h, _ => h
  | 2, _, _, _, h, _ => h
  | 3, _, _, _, h, _ => h
  | 4, _, _, _, h, _ => h
  | 5, _, _, _, h, _ => h
  | 6, _, _, _, h, _ => h
  | 7, _, _, _, h, _ => h
  | 8, _, _, _, h, _ => h
  | 9, _, _, _, h, _ => h
  | 10, _, _, _, h, _ => h
  | _ + 11, _, _, _, _, _ => trivial
def pkbP (bk off k m cap ck coff cc q on oc gb L gc p ob ooff zj : Nat) (z : Int) (x : Ev) : Nat → Value → World → Prop
  | 0, v, _ => v = .int .i64 p
  | 1, v, _ => v = .slice (some ⟨gb, 0, none⟩) L gc
  | 2, v, _ => v = .int .i64 L
  | 3, v, _ => v = .bool false
  | 4, v, _ => v = .bool false
  | 5, v, _ => v = .slice (some ⟨gb, 0, none⟩) L gc
  | 6, v, _ => v = .int .i64 p
  | 7, v, _ => v = .pointer (some ⟨gb, 0 + p * 14, none⟩)
  | 8, v, _ => v = .agg (evC x).toArray
  | 9, v, _ => v = .slice (some ⟨bk, off, none⟩) k cap
  | 10, v, _ => v = .int .i64 q
  | 11, v, _ => v = .pointer (some ⟨bk, off + q * 2, none⟩)
  | 12, v, _ => v = .pointer (some ⟨bk, off + q * 2, none⟩)
  | 13, v, _ => v = .slice (some ⟨ob, ooff, none⟩) on oc
  | 14, v, _ => v = .slice (some ⟨ck, coff, none⟩) m cc
  | 15, v, _ => v = .int .i64 q
  | 16, v, _ => v = .pointer (some ⟨ck, coff + q * 1, none⟩)
  | 17, v, _ => v = .int .i64 z
  | 18, v, _ => v = .pointer (some ⟨ob, ooff + zj * 14, none⟩)
  | 19, v, _ => v = .agg (evC x).toArray
  | 20, v, _ => v = .bool false
  | 21, v, _ => v = .bool false
  | _, _, _ => True
theorem pkbP_below {bk off k m cap ck coff cc q on oc gb L gc p ob ooff zj : Nat} {z : Int} {x : Ev} : ∀ j u w w', pkbP bk off k m cap ck coff cc q on oc gb L gc p ob ooff zj z x j u w → Below w.heap.size w w' → pkbP bk off k m cap ck coff cc q on oc gb L gc p ob ooff zj z x j u w'
  | 0, _, _, _, h, _ => h
  | 1, _, _, _, h, _ => h
  | 2, _, _, _, h, _ => h
  | 3, _, _, _, h, _ => h
  | 4, _, _, _, h, _ => h
  | 5, _, _, _, h, _ => h
  | 6, _, _, _, h, _ => h
  | 7, _, _, _, h, _ => h
  | 8, _, _, _, h, _ => h
  | 9, _, _, _, h, _ => h
  | 10, _, _, _, h, _ => h
  | 11, _, _, _, h, _ => h
  | 12, _, _, _, h, _ => h
  | 13, _, _, _, h, _ => h
  | 14, _, _, _, h, _ => h
  | 15, _, _, _, h, _ => h
  | 16, _, _, _, h, _ => h
  | 17, _, _, _, h, _ => h
  | 18, _, _, _, h, _ => h
  | 19, _, _, _, h, _ => h
  | 20, _, _, _, h, _ => h
  | 21, _, _, _, h, _ => h
  | _ + 22, _, _, _, _, _ => trivial
set_option maxRecDepth 100000 in
set_option maxHeartbeats 16000000 in
theorem lpicks_any (ao : Option Addr) (l : List Rp) (cap : Nat) (hlc : l.length ≤ cap) (hcp : cap ≤ 9223372036854775807) (co : Option Addr) (cs : List Int) (cc : Nat) (hcc : cs.length ≤ cc) (hcq : cc ≤ 9223372036854775807) (W : World) (hi : IsL 2 ElRp W ao l) (hv : IsL 1 ElZ W co cs) (hT : WTab W) (ht : Tab W) :
    Calls Tryz.prog 6 #[.slice ao l.length cap, .slice co cs.length cc] W fun e w' => e = .returned (.bool true) ∧ Below W.heap.size W w' := by
  have HHd := Lib.hid (head13_any W hT ht)
  have HFw := Lib.hid (fun w h => fewLaw_any ao l cap (by omega) co cs.length cc (by omega) w h)
  have HI := Lib.hid hi
  have HV := Lib.hid hv
  clear hi hv hT ht
  obtain ⟨n, Hn⟩ : ∃ n, Hid (n = l.length) := ⟨_, Lib.hid rfl⟩
  obtain ⟨m, Hm⟩ : ∃ n, Hid (n = cs.length) := ⟨_, Lib.hid rfl⟩
  rw [← Hn.out, ← Hm.out] at HFw ⊢
  rw [← Hn.out] at hlc
  rw [← Hm.out] at hcc
  go_enter Tryz.func6, Tryz.ntmps6
  go_wp2_with fail
  refine HHd.out.mono ?_
  rintro e w1 ⟨rfl, hb⟩
  have HB1 := Lib.hid hb
  have HI1 := Lib.hid (HI.out.below stRp hb)
  clear hb
  go_wp2_with fail
  refine (HFw.out _ HI1.out).mono ?_
  rintro e w2 ⟨b, rfl, hq, hb⟩
  have HB2 := Lib.hid (below_step HB1.out hb)
  clear hb
  cases b with
  | false =>
    go_wp2_with fail
    go_ret
    exact ⟨rfl, HB2.out⟩
  | true =>
  obtain ⟨hn12, hm30⟩ := hq rfl
  clear hq
  have HI2 := Lib.hid (HI.out.below stRp HB2.out)
  have HV2 := Lib.hid (HV.out.below stZ HB2.out)
  obtain ⟨eq0, He0⟩ : ∃ b, Hid (b = rt l cs 0) := ⟨_, Lib.hid rfl⟩
  have heq : ((n : Int) == m) = eq0 := by
    rw [He0.out]
    unfold rt pkAll
    simp only [List.take_zero, List.all_nil, Bool.and_true]
    rw [← Hn.out, ← Hm.out, Bool.eq_iff_iff]
    simp
    omega
  go_wp2_with fail
  go_loopw [6, 7] (fun f i wr => ∃ k : Nat, k ≤ n ∧ i = .int .i64 k ∧ f = .bool (rt l cs k) ∧ Hid (Below w2.heap.size w2 wr)) (fun _ i _ => n - (intOf i).toNat)
  case atStart => exact ⟨0, Nat.zero_le _, by go_num, by rw [He0.out], Lib.hid (Below.refl _ _)⟩
  case round =>
    obtain ⟨k, hk, rfl, rfl, HR⟩ := hrel
    obtain ⟨rk, Hrk⟩ : ∃ b, Hid (b = rt l cs k) := ⟨_, Lib.hid rfl⟩
    rw [← Hrk.out]
    clear heq
    have HBr := Lib.hid (below_step HB2.out HR.out)
    by_cases hkn : k < n
    · have hd : decide ((k : Int) < n) = true := decide_eq_true (by omega)
      have hb0 : (0 : Int) ≤ k := by omega
      have hb1 : (k : Int) < n := by omega
      have hkl : k < l.length := by rw [← Hn.out]; exact hkn
      obtain ⟨bk, off, cs0, rfl, hbk, hrg, oo, oc, rfl, hel, hoc1, hoc2⟩ := HI2.out.at hkl
      obtain ⟨y, Hy⟩ : ∃ m, Hid (m = l[k]) := ⟨_, Lib.hid rfl⟩
      rw [← Hy.out] at hrg hel hoc1
      have HRg := Lib.hid (fun w (hw : Below w2.heap.size w2 w) => rangeB hrg hbk hw)
      have HCh := Lib.hid (fun w (hw : Below w2.heap.size w2 w) => choices_any y oo oc hoc1 hoc2 w (hel.below stEv hw))
      have HVa := Lib.hid (fun w (hw : Below w2.heap.size w2 w) => repValid_any y oo oc hoc1 hoc2 w (hel.below stEv hw))
      obtain ⟨on, Hon⟩ : ∃ m, Hid (m = y.opts.length) := ⟨_, Lib.hid rfl⟩
      obtain ⟨yd, Hyd⟩ : ∃ m, Hid (m = y.doubt) := ⟨_, Lib.hid rfl⟩
      obtain ⟨v, Hv⟩ : ∃ m, Hid (m = validR y) := ⟨_, Lib.hid rfl⟩
      obtain ⟨ch, Hch⟩ : ∃ m, Hid (m = choices y) := ⟨_, Lib.hid rfl⟩
      rw [← Hon.out, ← Hyd.out] at HCh HVa HRg
      rw [← Hch.out] at HCh
      rw [← Hv.out] at HVa
      have HNo : Hid (v = false → ch = 0) := Lib.hid (fun h => by rw [Hch.out]; exact choices_no (by rw [← Hv.out]; exact h))
      have HYes : Hid (v = true → ch = (on : Int) + (if yd then 1 else 0) ∧ 1 ≤ on ∧ on ≤ 4) := Lib.hid (fun h => by
        have hv : validR y = true := by rw [← Hv.out]; exact h
        have := validR_len hv
        rw [Hch.out, Hon.out, Hyd.out]
        exact ⟨choices_yes hv, this⟩)
      have HNx : Hid (∀ h : k < cs.length, rt l cs (k + 1) = (rk && (v && (decide (0 ≤ cs[k]) && decide (cs[k] < ch))))) := Lib.hid (fun h => by rw [rt_next hkl h, ← Hrk.out, ← Hy.out, ← Hv.out, ← Hch.out])
      have HNl : Hid (rk = true → n = m) := Lib.hid (fun h => by rw [Hn.out, Hm.out]; exact rt_lenT (by rw [← Hrk.out]; exact h))
      have HNf : Hid (rk = false → rt l cs (k + 1) = false) := Lib.hid (fun h => by
        by_cases hl : l.length = cs.length
        · have := HNx.out (by omega)
          rw [this, h]; rfl
        · exact rt_len hl _)
      clear hrg hel hoc1 hbk
      have c0 : wr.cell? ⟨bk, off + k * 2, none⟩ = some (.slice oo on oc) := by have := HRg.out wr HR.out 0 _ rfl; exact this
      have c1 : wr.cell? ⟨bk, off + k * 2 + 1, none⟩ = some (.bool yd) := HRg.out wr HR.out 1 _ rfl
      have HC3 := Lib.hid (HCh.out wr HR.out)
      go_wp2_with fail
      refine HC3.out.mono ?_
      rintro e w3 ⟨rfl, hb3⟩
      have HB3 := Lib.hid (below_step HR.out hb3)
      clear hb3 c0 c1
      have c0 : w3.cell? ⟨bk, off + k * 2, none⟩ = some (.slice oo on oc) := by have := HRg.out w3 HB3.out 0 _ rfl; exact this
      have c1 : w3.cell? ⟨bk, off + k * 2 + 1, none⟩ = some (.bool yd) := HRg.out w3 HB3.out 1 _ rfl
      have HV4 := Lib.hid (HVa.out w3 HB3.out)
      go_wp2_with fail
      refine HV4.out.mono ?_
      rintro e w4 ⟨rfl, hb4⟩
      have HB4 := Lib.hid (below_step HB3.out hb4)
      clear hb4 c0 c1
      have c0 : w4.cell? ⟨bk, off + k * 2, none⟩ = some (.slice oo on oc) := by have := HRg.out w4 HB4.out 0 _ rfl; exact this
      have c1 : w4.cell? ⟨bk, off + k * 2 + 1, none⟩ = some (.bool yd) := HRg.out w4 HB4.out 1 _ rfl
      have key : ∀ b, b = rt l cs (k + 1) → True := fun _ _ => trivial
      cases v with
      | false =>
        obtain rfl : ch = 0 := HNo.out rfl
        have HX : Hid (rt l cs (k + 1) = false) := Lib.hid (by
          cases rk with
          | false => exact HNf.out rfl
          | true => have := HNl.out rfl; rw [HNx.out (by rw [← Hm.out]; omega)]; rfl)
        cases rk <;>
        · go_wp2_with fail
          go_round
          case rel => exact ⟨k + 1, by omega, by go_num, by rw [HX.out], HB4⟩
          case measure => simp [intOf]; omega
      | true =>
        obtain ⟨hch, hon1, hon4⟩ := HYes.out rfl
        obtain ⟨b2, e2⟩ : ∃ b, decide ((1 : Int) < on) = b := ⟨_, rfl⟩
        have e1 : decide ((1 : Int) < ch) = (b2 || yd) := by
          rw [hch, ← e2, Bool.eq_iff_iff]
          cases yd <;> simp <;> omega
        have e0 : decide ((0 : Int) < ch) = true := decide_eq_true (by cases yd <;> simp at hch <;> omega)
        have hch9 : ch ≤ 5 := by cases yd <;> simp at hch <;> omega
        have hch0 : 1 ≤ ch := by cases yd <;> simp at hch <;> omega
        clear hch
        cases rk with
        | false =>
          have HX : Hid (rt l cs (k + 1) = false) := Lib.hid (HNf.out rfl)
          cases b2 <;> cases yd <;>
          · go_wp2_with fail
            go_round
            case rel => exact ⟨k + 1, by omega, by go_num, by rw [HX.out], HB4⟩
            case measure => simp [intOf]; omega
        | true =>
          have hnm := HNl.out rfl
          have hkc : k < cs.length := by rw [← Hm.out]; omega
          have hb2 : (k : Int) < m := by omega
          obtain ⟨ck, coff, cs1, rfl, hck, hcg, rfl⟩ := HV2.out.at hkc
          obtain ⟨z, Hz⟩ : ∃ m, Hid (m = cs[k]) := ⟨_, Lib.hid rfl⟩
          rw [← Hz.out] at hcg
          have cz : w4.cell? ⟨ck, coff + k, none⟩ = some (.int .i64 z) := by
            have := (cellB HB4.out hck).trans (hcg 0 _ rfl)
            rw [Nat.add_zero, Nat.mul_one] at this
            exact this
          have HX : Hid (rt l cs (k + 1) = (decide (0 ≤ z) && decide (z < ch))) := Lib.hid (by rw [HNx.out hkc, Hz.out]; rfl)
          obtain ⟨z0, ez0⟩ : ∃ b, decide ((0 : Int) ≤ z) = b := ⟨_, rfl⟩
          obtain ⟨z1, ez1⟩ : ∃ b, decide (z < ch) = b := ⟨_, rfl⟩
          rw [ez0, ez1] at HX
          clear hcg hnm
          cases z0 <;> cases b2 <;> cases yd <;>
          · go_wp2_with fail
            go_round
            case rel => exact ⟨k + 1, by omega, by go_num, by rw [HX.out]; rfl, HB4⟩
            case measure => simp [intOf]; omega
    · obtain rfl : k = n := by omega
      have hd : decide ((k : Int) < k) = false := decide_eq_false (by omega)
      have HPk := Lib.hid (repPicked_any l ao cap (by rw [← Hn.out]; omega) cs co cc (by rw [← Hm.out]; omega) wr (HI2.out.below stRp HR.out) (HV2.out.below stZ HR.out))
      rw [← Hn.out, ← Hm.out] at HPk
      obtain ⟨F, HF⟩ : ∃ b, Hid (b = pickF l cs) := ⟨_, Lib.hid rfl⟩
      obtain ⟨E, HE⟩ : ∃ b, Hid (b = pickE l cs) := ⟨_, Lib.hid rfl⟩
      rw [← HF.out, ← HE.out] at HPk
      have HEB : Hid (E = (if rk then 0 else 1) ∧ F = (if rk then pkd l cs l.length else [])) := Lib.hid (by
        rw [HE.out, HF.out]
        unfold pickE pickF
        rw [rt_end, ← Hn.out, ← Hrk.out]
        exact ⟨rfl, rfl⟩)
      clear HF HE
      go_wp2_with fail
      refine HPk.out.mono ?_
      rintro e w5 ⟨gv, rfl, hown, hb5⟩
      have HB5 := Lib.hid (below_step HR.out hb5)
      have HBW5 := Lib.hid (below_step HB2.out HB5.out)
      have HO := Lib.hid hown
      clear hb5 hown
      cases rk with
      | false =>
        obtain rfl : E = 1 := HEB.out.1
        obtain rfl : F = [] := HEB.out.2
        obtain ⟨go, gc, rfl⟩ := owns_shapeM HO.out.row
        go_wp2_with fail
        go_loopw [12, 13] (fun a b ws => a = .int .i64 0 ∧ b = .int .i64 0 ∧ Hid (Below W.heap.size W ws)) (fun _ _ _ => 0)
        case atStart => exact ⟨rfl, rfl, HBW5⟩
        case round =>
          obtain ⟨rfl, rfl, HBe⟩ := hrel
          by_cases hk0 : (0 : Int) < k
          · have hd0 : decide ((0 : Int) < k) = true := decide_eq_true hk0
            go_wp2_with fail
            go_ret
            exact ⟨rfl, HBe.out⟩
          · have hd0 : decide ((0 : Int) < k) = false := decide_eq_false hk0
            go_wp2_with fail
            go_ret
            exact ⟨rfl, HBe.out⟩
      | true =>
        obtain rfl : E = 0 := HEB.out.1
        have hF : F = pkd l cs l.length := HEB.out.2
        have HFe := Lib.hid hF
        clear hF
        have HRt : Hid (rt l cs l.length = true) := Lib.hid (by rw [← Hn.out, ← Hrk.out])
        have hkm : k = m := by rw [Hn.out, Hm.out]; exact rt_lenT HRt.out
        obtain ⟨L, HL⟩ : ∃ n, Hid (n = F.length) := ⟨_, Lib.hid rfl⟩
        obtain ⟨go, gc, rfl⟩ := owns_shapeM HO.out.row
        have HLL : Hid (∀ j, j ≤ k → (pkd l cs j).length ≤ L) := Lib.hid (fun j hj => by
          rw [HL.out, HFe.out]
          obtain ⟨r, hr⟩ := pkd_split (l := l) (cs := cs) (k := j) (m := l.length) (by rw [← Hn.out]; exact hj)
          rw [hr, List.length_append]; omega)
        have hL12 : L ≤ 12 := by
          have := pkd_len l cs l.length
          rw [HL.out, HFe.out]
          rw [← Hn.out] at this ⊢
          omega
        rw [← HL.out] at HO ⊢
        have Hkm := Lib.hid hkm
        have HN12 := Lib.hid hn12
        clear hkm
        obtain ⟨N, HNn⟩ : ∃ N, Hid (N = k) := ⟨_, Lib.hid rfl⟩
        go_wp2_with fail
        go_loopw [12, 13] (fun a b ws => ∃ q : Nat, q ≤ k ∧ b = .int .i64 q ∧ a = .int .i64 ((pkd l cs q).length : Nat) ∧ Hid (Below w5.heap.size w5 ws)) (fun _ b _ => k - (intOf b).toNat)
        case atStart => exact ⟨0, Nat.zero_le _, by go_num, by unfold pkd; simp, Lib.hid (Below.refl _ _)⟩
        case round =>
          obtain ⟨q, hq, rfl, rfl, HQ⟩ := hrel
          obtain ⟨p, Hp⟩ : ∃ p, Hid (p = (pkd l cs q).length) := ⟨_, Lib.hid rfl⟩
          have hpL : p ≤ L := by rw [Hp.out]; exact HLL.out q hq
          rw [← Hp.out]
          have HBq := Lib.hid (below_step HBW5.out HQ.out)
          have HBq2 := Lib.hid (below_step HB5.out HQ.out)
          by_cases hqk : q < k
          · have hd1 : decide ((q : Int) < k) = true := decide_eq_true (by omega)
            have hb0 : (0 : Int) ≤ q := by omega
            have hb1 : (q : Int) < k := by omega
            have hql : q < l.length := by rw [← Hn.out]; exact hqk
            have hqc : q < cs.length := by rw [← Hm.out, ← Hkm.out]; exact hqk
            obtain ⟨bk, off, cs0, rfl, hbk, hrg, oo, oc, rfl, hel, hoc1, hoc2⟩ := HI2.out.at hql
            obtain ⟨ck, coff, cs1, rfl, hck, hcg, rfl⟩ := HV2.out.at hqc
            obtain ⟨y, Hy⟩ : ∃ m, Hid (m = l[q]) := ⟨_, Lib.hid rfl⟩
            obtain ⟨z, Hz⟩ : ∃ m, Hid (m = cs[q]) := ⟨_, Lib.hid rfl⟩
            rw [← Hy.out] at hrg hel hoc1
            rw [← Hz.out] at hcg
            have HOk : Hid (pkOk y z = true) := Lib.hid (by rw [Hy.out, Hz.out]; exact rt_at HRt.out hql hqc)
            have hok := HOk.out
            rw [pkOk_eq, Bool.and_eq_true, Bool.and_eq_true, decide_eq_true_eq, decide_eq_true_eq] at hok
            obtain ⟨hv, hz0, hz1⟩ := hok
            rw [choices_yes hv] at hz1
            have hon4 := (validR_len hv).2
            have HSt : Hid ((pkd l cs (q + 1)).length = p + (pk y z).length) := Lib.hid (by rw [pkd_step hql hqc, ← Hp.out, ← Hy.out, ← Hz.out])
            have HAt : Hid (∀ x, y.opts[z.toNat]? = some x → ∃ h : p < F.length, F[p] = x) := Lib.hid (fun x hx => by
              have := pkd_at hql hqc (x := x) (by rw [← Hy.out, ← Hz.out]; exact hx)
              rw [← Hp.out, ← HFe.out] at this
              exact List.getElem?_eq_some_iff.1 this)
            obtain ⟨on, Hon⟩ : ∃ m, Hid (m = y.opts.length) := ⟨_, Lib.hid rfl⟩
            obtain ⟨yd, Hyd⟩ : ∃ m, Hid (m = y.doubt) := ⟨_, Lib.hid rfl⟩
            rw [← Hon.out] at hrg hz1 hon4
            rw [← Hyd.out] at hrg hz1
            have hz2 : z ≤ on := by cases yd <;> simp at hz1 <;> omega
            have HCz := Lib.hid (fun w (hw : Below wr.heap.size wr w) => (by
              have := (cellB (below_step HBq2.out hw) hck).trans (hcg 0 _ rfl)
              rw [Nat.add_zero] at this
              exact this : w.cell? ⟨ck, coff + q * 1, none⟩ = some (.int .i64 z)))
            have HCo := Lib.hid (fun w (hw : Below wr.heap.size wr w) => (by
              have := rangeB hrg hbk (below_step HBq2.out hw) 0 _ rfl
              exact this : w.cell? ⟨bk, off + q * 2, none⟩ = some (.slice oo on oc)))
            have HEl := Lib.hid (hel.below stEv (below_step HBq2.out (Below.refl wr.heap.size wr)))
            have hkn2 : q < k := hqk
            clear hrg hcg hel hz1 hv
            go_wp2_with fail
            have hqm : q < m := by rw [Hm.out]; exact hqc
            apply wp_region_monoG 164 (pkaP bk off k m cap ck coff cc q on oc oo z) pkaP_below (by kernel_rfl) (by kernel_rfl) rfl
            · intro i o g b ho hgd u w hu
              have hi : i < 11 := by have := (List.getElem?_eq_some_iff.1 ho).1; simpa using this
              have hi : i = 0 ∨ i = 1 ∨ i = 2 ∨ i = 3 ∨ i = 4 ∨ i = 5 ∨ i = 6 ∨ i = 7 ∨ i = 8 ∨ i = 9 ∨ i = 10 := by omega
              rcases hi with rfl | rfl | rfl | rfl | rfl | rfl | rfl | rfl | rfl | rfl | rfl
              all_goals
                simp only [List.getElem?_cons_succ, List.getElem?_cons_zero, Option.some.injEq] at ho
                subst ho
                cases hgd
                all_goals exact hu
            · intro i o ho w A' hlow hsee haway
              have q0 : A'.eval (.tmp 0) = .slice (some ⟨bk, off, none⟩) k cap := (haway 0 (by kernel_rfl)).trans rfl
              have q1 : A'.eval (.tmp 1) = .slice (some ⟨ck, coff, none⟩) m cc := (haway 1 (by kernel_rfl)).trans rfl
              have q13 : A'.eval (.tmp 13) = .int .i64 q := (haway 13 (by kernel_rfl)).trans rfl
              have hi : i < 11 := by have := (List.getElem?_eq_some_iff.1 ho).1; simpa using this
              have hi : i = 0 ∨ i = 1 ∨ i = 2 ∨ i = 3 ∨ i = 4 ∨ i = 5 ∨ i = 6 ∨ i = 7 ∨ i = 8 ∨ i = 9 ∨ i = 10 := by omega
              rcases hi with rfl | rfl | rfl | rfl | rfl | rfl | rfl | rfl | rfl | rfl | rfl
              all_goals
                simp only [List.getElem?_cons_succ, List.getElem?_cons_zero, Option.some.injEq] at ho
                subst ho
              · exact wp_of_runL (rMove _ _ _ _ _ A' w (.tmp 1) _ q1) ⟨_, rfl, Below.refl _ _, rfl⟩
              · exact wp_of_runL (rMove _ _ _ _ _ A' w (.tmp 13) _ q13) ⟨_, rfl, Below.refl _ _, rfl⟩
              · have q122 : A'.eval (.tmp 122) = .slice (some ⟨ck, coff, none⟩) m cc := hsee 122 0 (by kernel_rfl) (by kernel_rfl)
                have q123 : A'.eval (.tmp 123) = .int .i64 q := hsee 123 1 (by kernel_rfl) (by kernel_rfl)
                exact wp_of_runL (rIndex _ _ _ _ _ A' w 23 3 1 (.tmp 122) (.tmp 123) ck coff m cc q q Tryz.underlying23 (by kernel_rfl) (by omega) (by omega) q122 q123) ⟨_, rfl, Below.refl _ _, rfl⟩
              · have q124 : A'.eval (.tmp 124) = .pointer (some ⟨ck, coff + q * 1, none⟩) := hsee 124 2 (by kernel_rfl) (by kernel_rfl)
                exact wp_of_runL (rLoad1 _ _ _ _ _ A' w 3 (.tmp 124) _ _ _ Tryz.underlying3 rfl (HCz.out w hlow) q124) ⟨_, rfl, Below.refl _ _, rfl⟩
              · exact wp_of_runL (rMove _ _ _ _ _ A' w (.tmp 0) _ q0) ⟨_, rfl, Below.refl _ _, rfl⟩
              · exact wp_of_runL (rMove _ _ _ _ _ A' w (.tmp 13) _ q13) ⟨_, rfl, Below.refl _ _, rfl⟩
              · have q126 : A'.eval (.tmp 126) = .slice (some ⟨bk, off, none⟩) k cap := hsee 126 4 (by kernel_rfl) (by kernel_rfl)
                have q127 : A'.eval (.tmp 127) = .int .i64 q := hsee 127 5 (by kernel_rfl) (by kernel_rfl)
                exact wp_of_runL (rIndex _ _ _ _ _ A' w 22 31 2 (.tmp 126) (.tmp 127) bk off k cap q q Tryz.underlying22 (by kernel_rfl) (by omega) (by omega) q126 q127) ⟨_, rfl, Below.refl _ _, rfl⟩
              · have q128 : A'.eval (.tmp 128) = .pointer (some ⟨bk, off + q * 2, none⟩) := hsee 128 6 (by kernel_rfl) (by kernel_rfl)
                exact wp_of_runL (rField _ _ _ _ _ A' w 31 (.tmp 128) 0 bk (off + q * 2) (off + q * 2) _ _ Tryz.underlying31 rfl (by kernel_rfl) rfl (by kernel_rfl) q128) ⟨_, rfl, Below.refl _ _, rfl⟩
              · have q129 : A'.eval (.tmp 129) = .pointer (some ⟨bk, off + q * 2, none⟩) := hsee 129 7 (by kernel_rfl) (by kernel_rfl)
                exact wp_of_runL (rLoad1 _ _ _ _ _ A' w 26 (.tmp 129) _ _ _ Tryz.underlying26 rfl (HCo.out w hlow) q129) ⟨_, rfl, Below.refl _ _, rfl⟩
              · have q130 : A'.eval (.tmp 130) = .slice oo on oc := hsee 130 8 (by kernel_rfl) (by kernel_rfl)
                exact wp_of_runL (rLen _ _ _ _ _ A' w 26 (.tmp 130) oo on oc 51 Tryz.underlying26 q130) ⟨_, rfl, Below.refl _ _, rfl⟩
              · have q125 : A'.eval (.tmp 125) = .int .i64 z := hsee 125 3 (by kernel_rfl) (by kernel_rfl)
                have q131 : A'.eval (.tmp 131) = .int .i64 on := hsee 131 9 (by kernel_rfl) (by kernel_rfl)
                exact wp_of_runL (rEqlInt _ _ _ _ _ A' w _ _ (.tmp 125) (.tmp 131) _ _ q125 q131) ⟨_, rfl, Below.refl _ _, rfl⟩
            intro e wz hlow hall
            obtain ⟨v0, e0, -⟩ := hall 0 (by decide)
            obtain ⟨v1, e1, -⟩ := hall 1 (by decide)
            obtain ⟨v2, e2, -⟩ := hall 2 (by decide)
            obtain ⟨v3, e3, -⟩ := hall 3 (by decide)
            obtain ⟨v4, e4, -⟩ := hall 4 (by decide)
            obtain ⟨v5, e5, -⟩ := hall 5 (by decide)
            obtain ⟨v6, e6, -⟩ := hall 6 (by decide)
            obtain ⟨v7, e7, -⟩ := hall 7 (by decide)
            obtain ⟨v8, e8, -⟩ := hall 8 (by decide)
            obtain ⟨v9, e9, -⟩ := hall 9 (by decide)
            obtain ⟨v10, e10, h10⟩ := hall 10 (by decide)
            have h10' : v10 = .bool (z == on) := h10
            subst h10'
            clear h10
            have HLow := Lib.hid hlow
            simp only [List.length_cons, List.length_nil, Nat.reduceAdd, fillTo, e0, e1, e2, e3, e4, e5, e6, e7, e8, e9, e10, dstOf]
            clear e0 e1 e2 e3 e4 e5 e6 e7 e8 e9 e10 hlow hall
            go_simp
            have HQz := Lib.hid (below_step HQ.out HLow.out)
            by_cases hzo : z = (on : Int)
            · subst hzo
              have ez : ((on : Int) == on) = true := by simp
              have HSq : Hid ((pkd l cs (q + 1)).length = p) := Lib.hid (by
                rw [HSt.out]
                unfold pk
                rw [List.getElem?_eq_none (by rw [← Hon.out]; omega)]
                rfl)
              go_wp2_with fail
              go_round
              case rel => exact ⟨q + 1, by omega, by go_num, by rw [HSq.out], HQz⟩
              case measure => simp [intOf]; omega
            · have ez : (z == (on : Int)) = false := by simp [hzo]
              obtain ⟨zj, hzj⟩ : ∃ j : Nat, (j : Int) = z := ⟨z.toNat, by omega⟩
              have hzjo : zj < y.opts.length := by rw [← Hon.out]; omega
              obtain ⟨ob, ooff, cs2, rfl, hob, hog, rfl, hxs⟩ := HEl.out.at hzjo
              obtain ⟨x, Hx⟩ : ∃ m, Hid (m = y.opts[zj]) := ⟨_, Lib.hid rfl⟩
              rw [← Hx.out] at hog hxs
              have HSx := Lib.hid hxs
              have hx2 : y.opts[z.toNat]? = some x := by
                have : z.toNat = zj := by omega
                rw [this, List.getElem?_eq_getElem hzjo, Hx.out]
              obtain ⟨hpF, hFx⟩ := HAt.out x hx2
              have HSq : Hid ((pkd l cs (q + 1)).length = p + 1) := Lib.hid (by
                rw [HSt.out]
                unfold pk
                rw [hx2]
                rfl)
              have hO5 := HO.out.below (below_step (Below.refl _ _) HQz.out)
              obtain ⟨gb, gc2, e2, hgb, hgx, -⟩ := hO5.at hpF
              rw [← HL.out] at e2
              injection e2 with e3 _ e4
              subst e3 e4
              rw [hFx] at hgx
              have HGx := Lib.hid (fun w (hw : Below wz.heap.size wz w) => rangeB hgx hgb hw)
              have HOx := Lib.hid (fun w (hw : Below wz.heap.size wz w) => rangeB hog hob (below_step HLow.out hw))
              have HCz2 := HCz
              have HCo2 := HCo
              have HLow1 := HLow
              clear HCz HCo
              have HCz := Lib.hid (fun w (hw : Below wz.heap.size wz w) => HCz2.out w (below_step HLow1.out hw))
              have HCo := Lib.hid (fun w (hw : Below wz.heap.size wz w) => HCo2.out w (below_step HLow1.out hw))
              have hpL2 : p < L := by rw [HL.out]; exact hpF
              obtain ⟨vz, Hvz⟩ : ∃ v, Hid (v = wz) := ⟨_, Lib.hid rfl⟩
              clear hgx hog hxs hx2 hpF hFx hO5 hgb hob
              go_wp2_with fail
              apply wp_region_monoG 164 (pkbP bk off k m cap ck coff cc q on oc gb L gc p ob ooff zj z x) pkbP_below (by kernel_rfl) (by kernel_rfl) rfl
              · intro i o g b ho hgd u w hu
                have hi : i < 22 := by have := (List.getElem?_eq_some_iff.1 ho).1; simpa using this
                have hi : i = 0 ∨ i = 1 ∨ i = 2 ∨ i = 3 ∨ i = 4 ∨ i = 5 ∨ i = 6 ∨ i = 7 ∨ i = 8 ∨ i = 9 ∨ i = 10 ∨ i = 11 ∨ i = 12 ∨ i = 13 ∨ i = 14 ∨ i = 15 ∨ i = 16 ∨ i = 17 ∨ i = 18 ∨ i = 19 ∨ i = 20 ∨ i = 21 := by omega
                rcases hi with rfl | rfl | rfl | rfl | rfl | rfl | rfl | rfl | rfl | rfl | rfl | rfl | rfl | rfl | rfl | rfl | rfl | rfl | rfl | rfl | rfl | rfl
                all_goals
                  simp only [List.getElem?_cons_succ, List.getElem?_cons_zero, Option.some.injEq] at ho
                  subst ho
                  cases hgd
                  all_goals exact hu
              · intro i o ho w A' hlow hsee haway
                have q0 : A'.eval (.tmp 0) = .slice (some ⟨bk, off, none⟩) k cap := (haway 0 (by kernel_rfl)).trans rfl
                have q1 : A'.eval (.tmp 1) = .slice (some ⟨ck, coff, none⟩) m cc := (haway 1 (by kernel_rfl)).trans rfl
                have q10 : A'.eval (.tmp 10) = .slice (some ⟨gb, 0, none⟩) L gc := (haway 10 (by kernel_rfl)).trans rfl
                have q12 : A'.eval (.tmp 12) = .int .i64 p := (haway 12 (by kernel_rfl)).trans rfl
                have q13 : A'.eval (.tmp 13) = .int .i64 q := (haway 13 (by kernel_rfl)).trans rfl
                have hi : i < 22 := by have := (List.getElem?_eq_some_iff.1 ho).1; simpa using this
                have hi : i = 0 ∨ i = 1 ∨ i = 2 ∨ i = 3 ∨ i = 4 ∨ i = 5 ∨ i = 6 ∨ i = 7 ∨ i = 8 ∨ i = 9 ∨ i = 10 ∨ i = 11 ∨ i = 12 ∨ i = 13 ∨ i = 14 ∨ i = 15 ∨ i = 16 ∨ i = 17 ∨ i = 18 ∨ i = 19 ∨ i = 20 ∨ i = 21 := by omega
                rcases hi with rfl | rfl | rfl | rfl | rfl | rfl | rfl | rfl | rfl | rfl | rfl | rfl | rfl | rfl | rfl | rfl | rfl | rfl | rfl | rfl | rfl | rfl
                all_goals
                  simp only [List.getElem?_cons_succ, List.getElem?_cons_zero, Option.some.injEq] at ho
                  subst ho
                · exact wp_of_runL (rMove _ _ _ _ _ A' w (.tmp 12) _ q12) ⟨_, rfl, Below.refl _ _, rfl⟩
                · exact wp_of_runL (rMove _ _ _ _ _ A' w (.tmp 10) _ q10) ⟨_, rfl, Below.refl _ _, rfl⟩
                · have q134 : A'.eval (.tmp 134) = .slice (some ⟨gb, 0, none⟩) L gc := hsee 134 1 (by kernel_rfl) (by kernel_rfl)
                  exact wp_of_runL (rLen _ _ _ _ _ A' w 26 (.tmp 134) _ L gc 51 Tryz.underlying26 q134) ⟨_, rfl, Below.refl _ _, rfl⟩
                · have q133 : A'.eval (.tmp 133) = .int .i64 p := hsee 133 0 (by kernel_rfl) (by kernel_rfl)
                  have q135 : A'.eval (.tmp 135) = .int .i64 L := hsee 135 2 (by kernel_rfl) (by kernel_rfl)
                  exact wp_of_runL (rGeqIntF _ _ _ _ _ A' w _ _ (.tmp 133) (.tmp 135) _ _ (by omega) q133 q135) ⟨_, rfl, Below.refl _ _, rfl⟩
                · have q136 : A'.eval (.tmp 136) = .bool false := hsee 136 3 (by kernel_rfl) (by kernel_rfl)
                  exact wp_of_runL (rMove _ _ _ _ _ A' w (.tmp 136) _ q136) ⟨_, rfl, Below.refl _ _, rfl⟩
                · exact wp_of_runL (rMove _ _ _ _ _ A' w (.tmp 10) _ q10) ⟨_, rfl, Below.refl _ _, rfl⟩
                · exact wp_of_runL (rMove _ _ _ _ _ A' w (.tmp 12) _ q12) ⟨_, rfl, Below.refl _ _, rfl⟩
                · have q138 : A'.eval (.tmp 138) = .slice (some ⟨gb, 0, none⟩) L gc := hsee 138 5 (by kernel_rfl) (by kernel_rfl)
                  have q139 : A'.eval (.tmp 139) = .int .i64 p := hsee 139 6 (by kernel_rfl) (by kernel_rfl)
                  exact wp_of_runL (rIndex _ _ _ _ _ A' w 26 51 14 (.tmp 138) (.tmp 139) gb 0 L gc p p Tryz.underlying26 (by kernel_rfl) (by omega) (by omega) q138 q139) ⟨_, rfl, Below.refl _ _, rfl⟩
                · have q140 : A'.eval (.tmp 140) = .pointer (some ⟨gb, 0 + p * 14, none⟩) := hsee 140 7 (by kernel_rfl) (by kernel_rfl)
                  exact wp_of_runL (rLoad _ _ _ _ _ A' w 51 (.tmp 140) gb _ (evC x) _ (HGx.out w hlow) Tryz.underlying51 rfl (by kernel_rfl) q140) ⟨_, rfl, Below.refl _ _, rfl⟩
                · exact wp_of_runL (rMove _ _ _ _ _ A' w (.tmp 0) _ q0) ⟨_, rfl, Below.refl _ _, rfl⟩
                · exact wp_of_runL (rMove _ _ _ _ _ A' w (.tmp 13) _ q13) ⟨_, rfl, Below.refl _ _, rfl⟩
                · have q142 : A'.eval (.tmp 142) = .slice (some ⟨bk, off, none⟩) k cap := hsee 142 9 (by kernel_rfl) (by kernel_rfl)
                  have q143 : A'.eval (.tmp 143) = .int .i64 q := hsee 143 10 (by kernel_rfl) (by kernel_rfl)
                  exact wp_of_runL (rIndex _ _ _ _ _ A' w 22 31 2 (.tmp 142) (.tmp 143) bk off k cap q q Tryz.underlying22 (by kernel_rfl) (by omega) (by omega) q142 q143) ⟨_, rfl, Below.refl _ _, rfl⟩
                · have q144 : A'.eval (.tmp 144) = .pointer (some ⟨bk, off + q * 2, none⟩) := hsee 144 11 (by kernel_rfl) (by kernel_rfl)
                  exact wp_of_runL (rField _ _ _ _ _ A' w 31 (.tmp 144) 0 bk (off + q * 2) (off + q * 2) _ _ Tryz.underlying31 rfl (by kernel_rfl) rfl (by kernel_rfl) q144) ⟨_, rfl, Below.refl _ _, rfl⟩
                · have q145 : A'.eval (.tmp 145) = .pointer (some ⟨bk, off + q * 2, none⟩) := hsee 145 12 (by kernel_rfl) (by kernel_rfl)
                  exact wp_of_runL (rLoad1 _ _ _ _ _ A' w 26 (.tmp 145) _ _ _ Tryz.underlying26 rfl (HCo.out w hlow) q145) ⟨_, rfl, Below.refl _ _, rfl⟩
                · exact wp_of_runL (rMove _ _ _ _ _ A' w (.tmp 1) _ q1) ⟨_, rfl, Below.refl _ _, rfl⟩
                · exact wp_of_runL (rMove _ _ _ _ _ A' w (.tmp 13) _ q13) ⟨_, rfl, Below.refl _ _, rfl⟩
                · have q147 : A'.eval (.tmp 147) = .slice (some ⟨ck, coff, none⟩) m cc := hsee 147 14 (by kernel_rfl) (by kernel_rfl)
                  have q148 : A'.eval (.tmp 148) = .int .i64 q := hsee 148 15 (by kernel_rfl) (by kernel_rfl)
                  exact wp_of_runL (rIndex _ _ _ _ _ A' w 23 3 1 (.tmp 147) (.tmp 148) ck coff m cc q q Tryz.underlying23 (by kernel_rfl) (by omega) (by omega) q147 q148) ⟨_, rfl, Below.refl _ _, rfl⟩
                · have q149 : A'.eval (.tmp 149) = .pointer (some ⟨ck, coff + q * 1, none⟩) := hsee 149 16 (by kernel_rfl) (by kernel_rfl)
                  exact wp_of_runL (rLoad1 _ _ _ _ _ A' w 3 (.tmp 149) _ _ _ Tryz.underlying3 rfl (HCz.out w hlow) q149) ⟨_, rfl, Below.refl _ _, rfl⟩
                · have q146 : A'.eval (.tmp 146) = .slice (some ⟨ob, ooff, none⟩) on oc := hsee 146 13 (by kernel_rfl) (by kernel_rfl)
                  have q150 : A'.eval (.tmp 150) = .int .i64 z := hsee 150 17 (by kernel_rfl) (by kernel_rfl)
                  exact wp_of_runL (rIndex _ _ _ _ _ A' w 26 51 14 (.tmp 146) (.tmp 150) ob ooff on oc zj z Tryz.underlying26 (by kernel_rfl) (by omega) (by omega) q146 q150) ⟨_, rfl, Below.refl _ _, rfl⟩
                · have q151 : A'.eval (.tmp 151) = .pointer (some ⟨ob, ooff + zj * 14, none⟩) := hsee 151 18 (by kernel_rfl) (by kernel_rfl)
                  exact wp_of_runL (rLoad _ _ _ _ _ A' w 51 (.tmp 151) ob _ (evC x) _ (HOx.out w hlow) Tryz.underlying51 rfl (by kernel_rfl) q151) ⟨_, rfl, Below.refl _ _, rfl⟩
                · have q141 : A'.eval (.tmp 141) = .agg (evC x).toArray := hsee 141 8 (by kernel_rfl) (by kernel_rfl)
                  have q152 : A'.eval (.tmp 152) = .agg (evC x).toArray := hsee 152 19 (by kernel_rfl) (by kernel_rfl)
                  exact wp_of_runL (run_neqEvG _ _ _ _ _ A' w (.tmp 141) (.tmp 152) x HSx.out q141 q152) ⟨_, rfl, Below.refl _ _, rfl⟩
                · have q137 : A'.eval (.tmp 137) = .bool false := hsee 137 4 (by kernel_rfl) (by kernel_rfl)
                  have q153 : A'.eval (.tmp 153) = .bool false := hsee 153 20 (by kernel_rfl) (by kernel_rfl)
                  exact wp_of_runL (rPick _ _ _ _ _ A' w (.tmp 137) (.const (Value.bool true)) (.tmp 153) _ _ q137 (by rw [if_neg (by decide)]; exact q153)) ⟨_, rfl, Below.refl _ _, rfl⟩
              intro e wz hlow hall
              obtain ⟨v0, e0, -⟩ := hall 0 (by decide)
              obtain ⟨v1, e1, -⟩ := hall 1 (by decide)
              obtain ⟨v2, e2, -⟩ := hall 2 (by decide)
              obtain ⟨v3, e3, -⟩ := hall 3 (by decide)
              obtain ⟨v4, e4, -⟩ := hall 4 (by decide)
              obtain ⟨v5, e5, -⟩ := hall 5 (by decide)
              obtain ⟨v6, e6, -⟩ := hall 6 (by decide)
              obtain ⟨v7, e7, -⟩ := hall 7 (by decide)
              obtain ⟨v8, e8, -⟩ := hall 8 (by decide)
              obtain ⟨v9, e9, -⟩ := hall 9 (by decide)
              obtain ⟨v10, e10, -⟩ := hall 10 (by decide)
              obtain ⟨v11, e11, -⟩ := hall 11 (by decide)
              obtain ⟨v12, e12, -⟩ := hall 12 (by decide)
              obtain ⟨v13, e13, -⟩ := hall 13 (by decide)
              obtain ⟨v14, e14, -⟩ := hall 14 (by decide)
              obtain ⟨v15, e15, -⟩ := hall 15 (by decide)
              obtain ⟨v16, e16, -⟩ := hall 16 (by decide)
              obtain ⟨v17, e17, -⟩ := hall 17 (by decide)
              obtain ⟨v18, e18, -⟩ := hall 18 (by decide)
              obtain ⟨v19, e19, -⟩ := hall 19 (by decide)
              obtain ⟨v20, e20, -⟩ := hall 20 (by decide)
              obtain ⟨v21, e21, h21⟩ := hall 21 (by decide)
              have h21' : v21 = .bool false := h21
              subst h21'
              clear h21
              have HLow := Lib.hid hlow
              simp only [List.length_cons, List.length_nil, Nat.reduceAdd, fillTo, e0, e1, e2, e3, e4, e5, e6, e7, e8, e9, e10, e11, e12, e13, e14, e15, e16, e17, e18, e19, e20, e21, dstOf]
              clear e0 e1 e2 e3 e4 e5 e6 e7 e8 e9 e10 e11 e12 e13 e14 e15 e16 e17 e18 e19 e20 e21 hlow hall
              go_simp
              have HQy := Lib.hid (below_step HQz.out HLow.out)
              go_wp2_with fail
              go_round
              case rel => exact ⟨q + 1, by omega, by go_num, by rw [HSq.out]; go_num, HQy⟩
              case measure => simp [intOf]; omega
          · obtain rfl : q = k := by omega
            have hd1 : decide ((q : Int) < q) = false := decide_eq_false (by omega)
            obtain rfl : p = L := by rw [Hp.out, HL.out, HFe.out, ← Hn.out]
            have HBe := HBq
            go_wp2_with fail
            go_ret
            exact ⟨rfl, HBe.out⟩
end Go.Proofs.YtknphmkblcbabaaGreatDoor
