/- HoldEverybody. -/
import Derived.Test.YtfokbcakbbdlaaaHldEarly
import Derived.Test.YtfokbcakbbdlaaaHldBackT
import Derived.Test.YtfokbcakbbdlaaaHldEvM
import Derived.Test.YtfokbcakbbdlaaaEntMono
import Derived.Test.YtfokbcakbbdlaaaEntFacts
namespace Go.Proofs.Ytfokbcakbbdlaaa
open Go.RowKit
open Hld (Rc Hd)

theorem wpList_copy_recs {w : World} {ops : Array Oper} {rest : List Oper} {o : Oper} {a : Act} {Q : Exit → Act → World → Prop} (hgd : o.guard = none) (s x : Operand)
    (ho : o.op = .call { callee := .builtin .append, args := #[s, x], argTypes := #[23, 23] }) (g0 : Nat) (hs : a.eval s = .slice (some ⟨g0, 0, none⟩) 0 0) (hg0 : Whole w g0 54 #[]) (base : Nat) (hb : base ≤ g0) (l : List Rc) (n : Nat) (hn : n = l.length) (h1 : n * 480 ≤ 140737488351232)
    (ao : Option Addr) (c : Nat) (hx : a.eval x = .slice ao n c) (hl : IsRecs w ao l)
    (h : ∀ v' w', w'.ownsRow base 54 36 v' n (recsC l) → Below w.heap.size w w' → wpList Try.prog ops Q rest (a.put o.dst v') w') : wpList Try.prog ops Q (o :: rest) a w := by
  obtain ⟨v, w', hr, r1, r2⟩ := run_copy_recs o.type g0 hg0 base hb l n hn h1 ao c hl
  refine wpList_plain hgd fun K hK => ?_
  unfold Oper.wp
  simp [execOp, ho, resolve, invoke, builtin, hs, hx, hr, Result.andThen]
  exact hK _ _ (h v w' r1 r2)
section
variable (d : Option Tmp) (t : TypeId) (pos : String) (af : Array Edge) (g : Option (Nat × Bool)) (A : Act) (w : World)
theorem run_field_hold (j : Nat) (hj : j = 0 ∨ j = 2 ∨ j = 3) (x : Tmp) (b : Nat) (hx : A.eval (.tmp x) = .pointer (some ⟨b, 0, none⟩)) :
    (execOp A.eval ⟨d, .fieldAddr 31 (.tmp x) j, t, pos, af, g⟩).run Try.prog w = .ok (.value (.pointer (some ⟨b, j, none⟩))) w := by
  unfold execOp
  simp only [hx]
  rcases hj with rfl | rfl | rfl <;> go_simp
theorem run_load_str (x : Tmp) (p : Addr) (v : Value) (hx : A.eval (.tmp x) = .pointer (some p)) (hc : w.cell? p = some v) :
    (execOp A.eval ⟨d, .load 9 (.tmp x), t, pos, af, g⟩).run Try.prog w = .ok (.value v) w := by
  unfold execOp
  simp only [hx]
  go_simp
theorem run_index_int (x y : Tmp) (b o n c j : Nat) (hj : j < n) (hx : A.eval (.tmp x) = .slice (some ⟨b, o, none⟩) n c) (hy : A.eval (.tmp y) = .int .i64 j) :
    (execOp A.eval ⟨d, .indexAddr 29 (.tmp x) (.tmp y), t, pos, af, g⟩).run Try.prog w = .ok (.value (.pointer (some ⟨b, o + j, none⟩))) w := by
  have h0 : (0 : Int) ≤ j := by omega
  have h1 : (j : Int) < n := by omega
  unfold execOp
  simp only [hx, hy]
  go_simp
theorem run_prev_int (x : Tmp) (k n : Nat) (hn : n = k + 1) (hk : k < 4611686018427387904) (hx : A.eval (.tmp x) = .int .i64 n) :
    (execOp A.eval ⟨d, .binOp .sub 3 (.tmp x) (.const (.int .i64 1)) 3, t, pos, af, g⟩).run Try.prog w = .ok (.value (.int .i64 (k : Int))) w := by
  have h1 : (k : Int) < 4611686018427387904 := by omega
  have h2 : (n : Int) - 1 = (k : Int) := by omega
  have h3 : IntKind.i64.wrap (k : Int) = (k : Int) := by rw [IntKind.wrap_i64]; omega
  unfold execOp
  simp only [hx]
  go_simp
end

section
variable (d : Option Tmp) (t : TypeId) (pos : String) (af : Array Edge) (g : Option (Nat × Bool)) (A : Act) (w : World)
theorem run_one_none : (execOp A.eval ⟨d, .buildSlice 22 1 #[(0, .const (.string ⟨#[110, 111, 110, 101]⟩))], t, pos, af, g⟩).run Try.prog w = .ok (.value (.slice (some ⟨w.heap.size, 0, none⟩) 1 1)) (w.alloc (.cells #[.string ⟨#[110, 111, 110, 101]⟩] 9)) := by
  unfold execOp
  simp only [List.map_toArray, List.map_cons, List.map_nil]
  go_simp
end
/-! ### Region 21: a name and a record more, and All -/
def evK2 : List FactKey := [(none, none), (some 2, none), (some 2, some 1), (none, some 2), (some 14, none), (some 14, some 13), (none, some 14), (none, some 15), (none, some 16)]
def evP2 (B : Nat) (V : World) (rv nv : Value) (N : Nat) (ns : List ByteArray) (rs : List Rc) (x : Rc) (q : Nat) (G : List Hd) : Nat → Value → World → Prop
  | 0, _, w => Kp B V w ∧ B ≤ w.heap.size
  | 1, _, w => w.ownsRow B 9 1 nv N (strC ns)
  | 2, v, w => ∃ g, v = .slice (some ⟨g, 0, none⟩) 1 1 ∧ Whole w g 9 #[.string ⟨#[110, 111, 110, 101]⟩]
  | 3, v, w => w.ownsRow B 9 1 v (N + 1) (strC (ns ++ [⟨#[110, 111, 110, 101]⟩]))
  | 4, _, w => w.ownsRow B 54 36 rv N (recsC rs)
  | 5, v, w => ∃ g, v = .slice (some ⟨g, 0, none⟩) 1 1 ∧ Whole w g 54 x.cells.toArray
  | 6, v, w => w.ownsRow B 54 36 v (N + 1) (recsC (rs ++ [x]))
  | 7, v, w => ∃ co cc, v = .slice co q cc ∧ IsHolds w co G
  | 8, v, w => ∃ co cc, v = .slice co q cc ∧ IsHolds w co G
  | _, _, _ => True
theorem evP2_below {B : Nat} {V : World} {rv nv : Value} {N : Nat} {ns : List ByteArray} {rs : List Rc} {x : Rc} {q : Nat} {G : List Hd} : ∀ k u w w', evP2 B V rv nv N ns rs x q G k u w → Below w.heap.size w w' → evP2 B V rv nv N ns rs x q G k u w'
  | 0, _, _, _, h, hb => ⟨h.1.below h.2 hb, Nat.le_trans h.2 hb.size⟩
  | 1, _, _, _, h, hb => owns_below h hb
  | 2, _, _, _, ⟨g, h1, h2⟩, hb => ⟨g, h1, whole_below h2 hb⟩
  | 3, _, _, _, h, hb => owns_below h hb
  | 4, _, _, _, h, hb => owns_below h hb
  | 5, _, _, _, ⟨g, h1, h2⟩, hb => ⟨g, h1, whole_below h2 hb⟩
  | 6, _, _, _, h, hb => owns_below h hb
  | 7, _, _, _, ⟨g, c, h1, h2⟩, hb => ⟨g, c, h1, h2.below hb⟩
  | 8, _, _, _, ⟨g, c, h1, h2⟩, hb => ⟨g, c, h1, h2.below hb⟩
  | _ + 9, _, _, _, _, _ => trivial
def evV2 (rv nv : Value) (gx bm om n mc nn : Nat) (last : Int) (hid : ByteArray) : Nat → Value → Prop
  | 0, u => u = nv
  | 3, u => u = rv
  | 4, u => u = .pointer (some ⟨gx, 2, none⟩)
  | 5, u => u = .slice (some ⟨bm, om, none⟩) n mc
  | 6, u => u = .int .i64 n
  | 7, u => u = .int .i64 nn
  | 8, u => u = .pointer (some ⟨bm, om + nn, none⟩)
  | 9, u => u = .int .i64 last
  | 10, u => u = .pointer (some ⟨gx, 0, none⟩)
  | 11, u => u = .string hid
  | 12, u => u = .agg (Hld.eb hid last).2.cells.toArray
  | _, _ => True

/-! ### Region 18: one record more -/
def evK : List FactKey := [(none, none), (some 10, none), (some 10, some 9), (none, some 10), (none, some 11)]
def evP (V : World) (rv nv : Value) (N : Nat) (ns : List Value) (rs : List Rc) (x : Rc) : Nat → Value → World → Prop
  | 0, _, w => Below V.heap.size V w ∧ w.ownsRow V.heap.size 9 1 nv N ns
  | 1, _, w => w.ownsRow V.heap.size 54 36 rv N (recsC rs)
  | 2, v, w => ∃ g, v = .slice (some ⟨g, 0, none⟩) 1 1 ∧ Whole w g 54 x.cells.toArray
  | 3, v, w => w.ownsRow V.heap.size 54 36 v (N + 1) (recsC (rs ++ [x]))
  | 4, v, w => w.ownsRow V.heap.size 54 36 v (N + 1) (recsC (rs ++ [x]))
  | _, _, _ => True
theorem evP_below {V : World} {rv nv : Value} {N : Nat} {ns : List Value} {rs : List Rc} {x : Rc} : ∀ k u w w', evP V rv nv N ns rs x k u w → Below w.heap.size w w' → evP V rv nv N ns rs x k u w'
  | 0, _, _, _, h, hb => ⟨below_step h.1 hb, owns_below h.2 hb⟩
  | 1, _, _, _, h, hb => owns_below h hb
  | 2, _, _, _, ⟨g, h1, h2⟩, hb => ⟨g, h1, whole_below h2 hb⟩
  | 3, _, _, _, h, hb => owns_below h hb
  | 4, _, _, _, h, hb => owns_below h hb
  | _ + 5, _, _, _, _, _ => trivial
def evV (rv : Value) (gx bm om n mc k : Nat) (mk : Int) (hid : ByteArray) : Nat → Value → Prop
  | 0, u => u = rv
  | 1, u => u = .pointer (some ⟨gx, 2, none⟩)
  | 2, u => u = .slice (some ⟨bm, om, none⟩) n mc
  | 3, u => u = .int .i64 k
  | 4, u => u = .pointer (some ⟨bm, om + k, none⟩)
  | 5, u => u = .int .i64 mk
  | 6, u => u = .pointer (some ⟨gx, 0, none⟩)
  | 7, u => u = .string hid
  | 8, u => u = .agg (Hld.eb hid mk).2.cells.toArray
  | _, _ => True

set_option maxRecDepth 100000 in
set_option maxHeartbeats 16000000 in
theorem everybody_any (ids : List ByteArray) (recs : List Rc) (raw : Int) (hr0 : 0 ≤ raw) (hr255 : raw ≤ 255) (io ro : Option Addr) (ic rc : Nat) (hn : recs.length * 480 ≤ 140737488351232) (hm : ids.length * 16 ≤ 140737488351232) (W : World) (hi : IsStrs W io ids) (hr : IsRecs W ro recs) :
    Calls Try.prog 5 #[.slice io ids.length ic, .slice ro recs.length rc, .int .u8 raw] W fun e w' => e = .returned (.bool true) ∧ Below W.heap.size W w' := by
  obtain ⟨i0, hi0, hz0, hz1, hz2⟩ := info_parts info_rec
  obtain ⟨i1, hi1, hy0, hy1, hy2⟩ := info_parts info_str
  have HHead := Lib.hid (head_any W)
  have HFew := Lib.hid (fun W1 h1 h2 => few_any ids recs io ro ic rc (by omega) (by omega) W1 h1 h2)
  have HI := Lib.hid hi
  have HR := Lib.hid hr
  have HAll := Lib.hid (@all_any ids recs io ro ic rc)
  clear hi hr
  obtain ⟨n0, Hn⟩ : ∃ n, Hid (n = recs.length) := ⟨_, Lib.hid rfl⟩
  obtain ⟨m, Hm⟩ : ∃ n, Hid (n = ids.length) := ⟨_, Lib.hid rfl⟩
  rw [← Hn.out] at hn
  rw [← Hm.out] at hm
  rw [← Hn.out, ← Hm.out] at HFew
  rw [← Hn.out, ← Hm.out]
  go_enter Try.func5, Try.ntmps5
  go_wp2_with fail
  refine HHead.out.mono ?_
  rintro e W1 ⟨rfl, hb1⟩
  have HB1 := Lib.hid hb1
  clear hb1
  go_wp2_with fail
  refine (HFew.out W1 (HI.out.below HB1.out) (HR.out.below HB1.out)).mono ?_
  rintro e w ⟨b, rfl, hf, hw⟩
  subst hw
  cases b with
  | false =>
    go_wp2_with fail
    go_ret
    exact ⟨rfl, HB1.out⟩
  | true =>
  obtain ⟨hn30, hm30, hmem, hsz⟩ := hf rfl
  have HMem := Lib.hid hmem
  have HSz := Lib.hid hsz
  clear hmem hsz hf
  by_cases hne : m ≠ n0
  · have h1 : ((m : Int) == (n0 : Int)) = false := by
      have : ((m : Int) == (n0 : Int)) = decide ((m : Int) = (n0 : Int)) := rfl
      rw [this, decide_eq_false]; omega
    go_wp2_with fail
    go_ret
    exact ⟨rfl, HB1.out⟩
  obtain rfl : m = n0 := by omega
  have HNe : Hid (ids.length = recs.length) := Lib.hid (by rw [← Hn.out, ← Hm.out])
  obtain ⟨P, HP⟩ : ∃ P, Hid (P = ids.zip recs) := ⟨_, Lib.hid rfl⟩
  have HPl : Hid (P.length = m) := Lib.hid (by rw [HP.out, List.length_zip, HNe.out, Nat.min_self]; exact Hn.out.symm)
  clear hne
  obtain ⟨H, HHe⟩ : ∃ H, Hid (H = Hld.allF P) := ⟨_, Lib.hid rfl⟩
  obtain ⟨q, Hq⟩ : ∃ q, Hid (q = H.length) := ⟨_, Lib.hid rfl⟩
  have HA := HAll.out (by rw [← Hn.out]; omega) (by rw [← Hm.out]; omega) (fun s hs => by have := HSz.out s hs; omega) (fun r hr => by have := HMem.out r hr; omega) W1 (HI.out.below HB1.out) (HR.out.below HB1.out) HNe.out
  rw [← HP.out, ← HHe.out, ← Hq.out, ← Hn.out, ← Hm.out] at HA
  have HA := Lib.hid HA
  have hq1000 : q ≤ 30 := by
    have := Hld.allF_len P
    rw [← HHe.out, ← Hq.out, HPl.out] at this
    omega
  go_wp2_with fail
  refine HA.out.mono ?_
  rintro e w2 ⟨ho, hc, rfl, hh, hqc, hb⟩
  have HHs := Lib.hid hh
  have HB2 := Lib.hid (below_step HB1.out hb)
  clear hh hb
  by_cases hq0 : q = 0
  · have e0 : ((q : Int) == 0) = true := by
      have : ((q : Int) == 0) = decide ((q : Int) = 0) := rfl
      rw [this, decide_eq_true]; omega
    go_wp2_with fail
    go_ret
    exact ⟨rfl, HB2.out⟩
  have e0 : ((q : Int) == 0) = false := by
    have : ((q : Int) == 0) = decide ((q : Int) = 0) := rfl
    rw [this, decide_eq_false]; omega
  have e0' : ¬ ((q : Int) = 0) := by omega
  obtain ⟨kk, Hkk⟩ : ∃ k : Nat, Hid (k = raw.toNat % q) := ⟨_, Lib.hid rfl⟩
  have hkq : kk < q := by rw [Hkk.out]; exact Nat.mod_lt _ (by omega)
  have hrem : Int.tmod raw (q : Int) = (kk : Int) := by
    rw [Hkk.out, Int.tmod_eq_emod_of_nonneg hr0, Int.natCast_emod, Int.toNat_of_nonneg hr0]
  have hb0 : (0 : Int) ≤ kk := by omega
  have hb1 : (kk : Int) < q := by omega
  have hkH : kk < H.length := by rw [← Hq.out]; exact hkq
  obtain ⟨bh, oh, rfl, hbh, a0, a1, mo, mc, bo2, bc2, a2, a3, a4, a5⟩ := HHs.out.at hkH
  have HM4 := Lib.hid a4
  have HM5 := Lib.hid a5
  obtain ⟨h, Hh⟩ : ∃ h, Hid (h = H[kk]) := ⟨_, Lib.hid rfl⟩
  rw [← Hh.out] at a0 a1 a2 a3 HM4 HM5
  clear a4 a5
  have hmemH : h ∈ H := by rw [Hh.out]; exact List.getElem_mem hkH
  obtain ⟨n, Hnm⟩ : ∃ n, Hid (n = h.members.length) := ⟨_, Lib.hid rfl⟩
  obtain ⟨bl, Hbl⟩ : ∃ n, Hid (n = h.back.length) := ⟨_, Lib.hid rfl⟩
  obtain ⟨hid2, Hhid⟩ : ∃ u, Hid (u = h.id) := ⟨_, Lib.hid rfl⟩
  obtain ⟨hve, Hhve⟩ : ∃ u, Hid (u = h.vehicle) := ⟨_, Lib.hid rfl⟩
  rw [← Hhid.out] at a0
  rw [← Hhve.out] at a1
  rw [← Hnm.out] at a2
  rw [← Hbl.out] at a3
  have HHm : Hid (h.members ≠ [] ∧ h.members.length ≤ 20 ∧ h.back.length ≤ 30 ∧ hid2.size ≤ 100) := Lib.hid (by
    have hh := hmemH
    rw [HHe.out] at hh
    have h1 := Hld.all_some P h hh
    obtain ⟨⟨y, hy, e1, e2⟩, e3⟩ := Hld.all_mem hh
    rw [HP.out] at hy
    have hz := List.of_mem_zip (show (y.1, y.2) ∈ ids.zip recs from hy)
    rw [HPl.out] at e3
    refine ⟨h1, ?_, by omega, ?_⟩
    · rw [e2]; exact HMem.out _ hz.2
    · rw [Hhid.out, e1]; exact HSz.out _ hz.1)
  have hn20 : n ≤ 20 := by rw [Hnm.out]; exact HHm.out.2.1
  obtain ⟨nn, hnn⟩ : ∃ nn, n = nn + 1 := ⟨n - 1, by have := List.length_pos_iff.2 HHm.out.1; have := Hnm.out; omega⟩
  have e1 : (n : Int) - 1 = (nn : Int) := by omega
  have en : ((n : Int) == 0) = false := by
    have : ((n : Int) == 0) = decide ((n : Int) = 0) := rfl
    rw [this, decide_eq_false]; omega
  have Hnn := Lib.hid hnn
  obtain ⟨gx, Hgx⟩ : ∃ g, Hid (g = w2.heap.size) := ⟨_, Lib.hid rfl⟩
  obtain ⟨V, HV⟩ : ∃ w, Hid (w = w2.alloc (.cells #[.string hid2, .string hve, .slice mo n mc, .slice bo2 bl bc2] 31)) := ⟨_, Lib.hid rfl⟩
  have HBox : Hid (Whole V gx 31 #[.string hid2, .string hve, .slice mo n mc, .slice bo2 bl bc2]) := Lib.hid (by rw [HV.out, Hgx.out]; exact Whole.new _ _ _)
  have HB2V : Hid (Below w2.heap.size w2 V) := Lib.hid (by rw [HV.out]; exact (Below.refl _ _).alloc (Nat.le_refl _) _)
  have HBV := Lib.hid (below_step HB2.out HB2V.out)
  have HRV := Lib.hid (HR.out.below HBV.out)
  have HIV := Lib.hid (HI.out.below HBV.out)
  have HM4V := Lib.hid (HM4.out.below HB2V.out)
  have HM5V := Lib.hid (HM5.out.below HB2V.out)
  clear hnn
  go_wp2_with (first
    | (with_reducible show wpList _ _ _ (Oper.mk _ (Op.buildSlice 23 _ _) _ _ _ _ :: _) _ _; refine Hid.out ?_))
  refine Lib.hid ?_
  rw [← Hgx.out, ← HV.out]
  go_wp2_with (first
    | (at_builtin; refine wpList_copy_recs rfl _ _ rfl V.heap.size rfl (Whole.new _ _ _) V.heap.size (Nat.le_refl _) recs m Hn.out hn ro rc rfl (HRV.out.below ((Below.refl _ _).alloc (Nat.le_refl _) _)) ?_; intro rv0 w3 hown hb; refine Hid.out ?_))
  refine Lib.hid ?_
  have HB3 := Lib.hid (below_step ((Below.refl V.heap.size V).alloc (Nat.le_refl _) _) hb)
  have HRw3 := Lib.hid hown
  clear hown hb
  have HI3 := Lib.hid (HIV.out.below HB3.out)
  go_wp2_with (first
    | (at_builtin; refine wpList_copy_names rfl _ _ rfl w3.heap.size rfl (Whole.new _ _ _) V.heap.size HB3.out.size ids m Hm.out hm io ic rfl (HI3.out.below ((Below.refl _ _).alloc (Nat.le_refl _) _)) ?_; intro nv0 w4 hown hb; refine Hid.out ?_))
  refine Lib.hid ?_
  have HP4 : Hid (Pairs V w4 nv0 rv0 P) := Lib.hid (by
    have h1 := below_step ((Below.refl w3.heap.size w3).alloc (Nat.le_refl _) (.cells #[] 9)) hb
    have e1 : P.map (·.1) = ids := by rw [HP.out]; exact List.map_fst_zip (by rw [HNe.out]; exact Nat.le_refl _)
    have e2 : P.map (·.2) = recs := by rw [HP.out]; exact List.map_snd_zip (by rw [HNe.out]; exact Nat.le_refl _)
    refine ⟨below_step HB3.out h1, ?_, ?_⟩
    · rw [e1, HPl.out]; exact hown
    · rw [e2, HPl.out]; exact owns_below HRw3.out h1)
  clear hown hb
  obtain ⟨last, Hlast⟩ : ∃ z, Hid (∃ hl : nn < h.members.length, z = h.members[nn]) := ⟨_, Lib.hid ⟨by rw [← Hnm.out, Hnn.out]; omega, rfl⟩⟩
  have hn19 : nn ≤ 19 := by have := Hnn.out; omega
  go_wp2_with fail
  go_loopw [14, 12, 13] (fun i x y wr => ∃ (k : Nat) (rv nv : Value), k ≤ nn ∧ i = .int .i64 k ∧ x = rv ∧ y = nv ∧ Hid (Pairs V wr nv rv (P ++ (Hld.auth h.members last k).map (Hld.eb hid2)))) (fun i _ _ _ => nn - (intOf i).toNat)
  case atStart => exact ⟨0, _, _, Nat.zero_le _, by go_num, rfl, rfl, Lib.hid (by rw [Hld.auth_zero, List.map_nil, List.append_nil]; exact HP4.out)⟩
  case round =>
    obtain ⟨k, rv, nv, hk, rfl, hrv, hnv, HX⟩ := hrel
    replace hrv := hrv.symm
    replace hnv := hnv.symm
    subst hrv hnv
    obtain ⟨X, HXe⟩ : ∃ X, Hid (X = P ++ (Hld.auth h.members last k).map (Hld.eb hid2)) := ⟨_, Lib.hid rfl⟩
    rw [← HXe.out] at HX
    have hXl : X.length ≤ 50 := by
      have h1 := Hld.auth_len h.members last k
      have h2 := HPl.out
      have h3 := Hnm.out
      rw [HXe.out, List.length_append, List.length_map]
      omega
    have HBx := Lib.hid (whole_below HBox.out HX.out.low)
    obtain ⟨bm, om, hmo, hbm, hcl⟩ := HM4V.out.at (show nn < h.members.length by rw [← Hnm.out, Hnn.out]; omega)
    have hlm : h.members[nn]'(by rw [← Hnm.out, Hnn.out]; omega) = last := by obtain ⟨_, hx⟩ := Hlast.out; exact hx.symm
    rw [hlm] at hcl
    clear hlm
    subst hmo
    by_cases hkn : k < nn
    · have hd2 : decide ((k : Int) < (nn : Int)) = true := decide_eq_true (by omega)
      have hb0k : (0 : Int) ≤ k := by omega
      have hb1k : (k : Int) < n := by have := Hnn.out; omega
      have hb0n : (0 : Int) ≤ nn := by omega
      have hb1n : (nn : Int) < n := by have := Hnn.out; omega
      have hkl : k < h.members.length := by rw [← Hnm.out]; omega
      obtain ⟨bm', om', hmo', _, hck⟩ := HM4V.out.at hkl
      cases hmo'
      obtain ⟨mk, Hmk⟩ : ∃ z, Hid (z = h.members[k]) := ⟨_, Lib.hid rfl⟩
      rw [← Hmk.out] at hck
      have HNx := Lib.hid (Hld.auth_next (last := last) hkl)
      rw [← Hmk.out] at HNx
      have hgxV : gx < V.heap.size := HBox.out.lt
      have hgxr : gx < wr.heap.size := Nat.lt_of_lt_of_le hgxV HX.out.low.size
      have hbmr : bm < wr.heap.size := Nat.lt_of_lt_of_le hbm HX.out.low.size
      have hck' := (cell_below HX.out.low hbm).trans hck
      have hcl' := (cell_below HX.out.low hbm).trans hcl
      have gx2 : ∀ Y : Grown wr, Y.w.cell? ⟨gx, 2, none⟩ = some (.slice (some ⟨bm, om, none⟩) n mc) := fun Y => by rw [Y.cell hgxr]; exact HBx.out.cell 2
      have gxk : ∀ Y : Grown wr, Y.w.cell? ⟨bm, om + k, none⟩ = some (.int .i64 mk) := fun Y => by rw [Y.cell hbmr]; exact hck'
      have gxn : ∀ Y : Grown wr, Y.w.cell? ⟨bm, om + nn, none⟩ = some (.int .i64 last) := fun Y => by rw [Y.cell hbmr]; exact hcl'
      clear hck' hcl'
      by_cases hml : mk = last
      · have eml : (mk != last) = false := by rw [hml]; exact bne_self_eq_false _
        have HNx' : Hid (Hld.auth h.members last (k + 1) = Hld.auth h.members last k) := Lib.hid (by rw [HNx.out, if_pos hml])
        clear hml HNx
        go_wp2_with fail
        refine wp_region_grown (by kernel_rfl) (by kernel_rfl) ?_
        repeat (go_big_quiet_step (fail))
        refine wpQuiet_nil ?_
        rintro _ ⟨Y, rfl⟩
        go_wp2_with fail
        go_round
        case rel => exact ⟨k + 1, _, _, by omega, by go_num, rfl, rfl, Lib.hid (by rw [HNx'.out, ← HXe.out]; exact HX.out.below Y.below)⟩
        case measure => simp [intOf]; omega
      · have eml : (mk != last) = true := by simpa using hml
        have HNx' : Hid (P ++ (Hld.auth h.members last (k + 1)).map (Hld.eb hid2) = X ++ [Hld.eb hid2 mk]) := Lib.hid (by rw [HNx.out, if_neg hml, List.map_append, ← List.append_assoc, ← HXe.out]; rfl)
        clear hml HNx
        go_wp2_with fail
        refine wp_region_grown (by kernel_rfl) (by kernel_rfl) ?_
        repeat (go_big_quiet_step (fail))
        refine wpQuiet_nil ?_
        rintro _ ⟨Y, rfl⟩
        go_wp2_with fail
        have HXY := Lib.hid (HX.out.below Y.below)
        have HRc : Hid (RcOk (Hld.eb hid2 mk).2) := Lib.hid (mkR_ok 6 mk hid2 ⟨#[]⟩ [] none 0 (by simp) (by have := HHm.out.2.2.2; omega) (by decide))
        have hfx : (Hld.eb hid2 mk).2.cells = mkC 6 mk hid2 ⟨#[]⟩ (.slice none 0 0) := rfl
        apply wp_region_facts 147 evK (evP V rv nv X.length (strC (X.map (·.1))) (X.map (·.2)) (Hld.eb hid2 mk).2) (evV rv gx bm om n mc k mk hid2) (by kernel_rfl) (by kernel_rfl) rfl
        · intro j t hj
          match j, hj with
          | 0, _ => exact ⟨below_step HXY.out.low (Below.refl _ _).drew, owns_below HXY.out.names (Below.refl _ _).drew⟩
          | 1, _ => exact owns_below HXY.out.recs (Below.refl _ _).drew
          | 2, hj | 3, hj | 4, hj => simp [evK] at hj
          | _ + 5, hj => simp [evK] at hj
        · intro i o ho' e w A' hT hei hsee haway
          have h10 : A'.eval (.tmp 10) = .pointer (some ⟨gx, 0, none⟩) := (haway 10 (by kernel_rfl)).trans rfl
          have h14 : A'.eval (.tmp 14) = .int .i64 k := (haway 14 (by kernel_rfl)).trans rfl
          have hlow : Below V.heap.size V w := (hT.base 0 none rfl (fun _ h => by cases h)).1
          have hbox := whole_below HBox.out hlow
          have hi : i < 12 := by have := (List.getElem?_eq_some_iff.1 ho').1; simpa using this
          have hi : i = 0 ∨ i = 1 ∨ i = 2 ∨ i = 3 ∨ i = 4 ∨ i = 5 ∨ i = 6 ∨ i = 7 ∨ i = 8 ∨ i = 9 ∨ i = 10 ∨ i = 11 := by omega
          rcases hi with rfl | rfl | rfl | rfl | rfl | rfl | rfl | rfl | rfl | rfl | rfl | rfl
          all_goals
            simp only [List.getElem?_cons_succ, List.getElem?_cons_zero, Option.some.injEq] at ho'
            subst ho'
          · have h12 : A'.eval (.tmp 12) = rv := (haway 12 (by kernel_rfl)).trans rfl
            exact wp_of_run (run_move _ _ _ _ _ _ _ 12 _ h12) ⟨_, rfl, rfl, .plain evP_below (Below.refl _ _) (by decide)⟩
          · exact wp_of_run (run_field_hold _ _ _ _ _ _ _ 2 (by decide) 10 gx h10) ⟨_, rfl, rfl, .plain evP_below (Below.refl _ _) (by decide)⟩
          · have q1 : A'.eval (.tmp 76) = .pointer (some ⟨gx, 2, none⟩) := (hsee 76 1 (by kernel_rfl) rfl).2
            exact wp_of_run (run_load_one _ _ _ _ _ _ _ _ (Or.inr rfl) 76 _ _ q1 (hbox.cell 2)) ⟨_, rfl, rfl, .plain evP_below (Below.refl _ _) (by decide)⟩
          · exact wp_of_run (run_move _ _ _ _ _ _ _ 14 _ h14) ⟨_, rfl, rfl, .plain evP_below (Below.refl _ _) (by decide)⟩
          · have q2 : A'.eval (.tmp 77) = .slice (some ⟨bm, om, none⟩) n mc := (hsee 77 2 (by kernel_rfl) rfl).2
            have q3 : A'.eval (.tmp 78) = .int .i64 k := (hsee 78 3 (by kernel_rfl) rfl).2
            exact wp_of_run (run_index_int _ _ _ _ _ _ _ 77 78 bm om n mc k (by omega) q2 q3) ⟨_, rfl, rfl, .plain evP_below (Below.refl _ _) (by decide)⟩
          · have q4 : A'.eval (.tmp 79) = .pointer (some ⟨bm, om + k, none⟩) := (hsee 79 4 (by kernel_rfl) rfl).2
            exact wp_of_run (run_load_one _ _ _ _ _ _ _ _ (Or.inl rfl) 79 _ _ q4 ((cell_below hlow hbm).trans hck)) ⟨_, rfl, rfl, .plain evP_below (Below.refl _ _) (by decide)⟩
          · exact wp_of_run (run_field_hold _ _ _ _ _ _ _ 0 (by decide) 10 gx h10) ⟨_, rfl, rfl, .plain evP_below (Below.refl _ _) (by decide)⟩
          · have q6 : A'.eval (.tmp 81) = .pointer (some ⟨gx, 0, none⟩) := (hsee 81 6 (by kernel_rfl) rfl).2
            exact wp_of_run (run_load_str _ _ _ _ _ _ _ 81 _ _ q6 (hbox.cell 0)) ⟨_, rfl, rfl, .plain evP_below (Below.refl _ _) (by decide)⟩
          · have q5 : A'.eval (.tmp 80) = .int .i64 mk := (hsee 80 5 (by kernel_rfl) rfl).2
            have q7 : A'.eval (.tmp 82) = .string hid2 := (hsee 82 7 (by kernel_rfl) rfl).2
            refine wp_of_call2 _ _ _ _ _ _ _ 19 _ 80 82 _ _ q5 q7 (by kernel_rfl) ?_
            refine (back_any mk hid2 w).mono ?_
            rintro e' w' ⟨rfl, hb'⟩
            exact ⟨_, rfl, _, rfl, rfl, .plain evP_below hb' (by decide)⟩
          · have q8 : A'.eval (.tmp 83) = .agg (Hld.eb hid2 mk).2.cells.toArray := (hsee 83 8 (by kernel_rfl) rfl).2
            refine wp_of_run (run_one_rec _ _ _ _ _ _ _ 83 _ HRc.out.len q8) ⟨_, rfl, trivial, .below evP_below ((Below.refl _ _).alloc (Nat.le_refl _) _) ?_⟩
            intro j t hj
            match j, hj with
            | 2, _ => exact ⟨_, rfl, Whole.new _ _ _⟩
            | 0, hj | 1, hj | 3, hj | 4, hj => simp [evK] at hj
            | _ + 5, hj => simp [evK] at hj
          · have q0 : A'.eval (.tmp 75) = rv := (hsee 75 0 (by kernel_rfl) rfl).2
            obtain ⟨g, q9, q10⟩ := hT.of 2 (some 10) 9 rfl (fun j h => by cases h; exact hei) _ (hsee 84 9 (by kernel_rfl) rfl).1
            have hrow := hT.base 1 (some 10) rfl (fun j h => by cases h; exact hei)
            obtain ⟨v, w', hr, r1, r2⟩ := ag_recs 23 (by omega) hlow.size HRc.out hrow q10
            refine wp_of_run (run_append_rec _ _ _ _ _ _ _ w' 75 84 _ _ _ q0 q9 hr) ⟨_, rfl, trivial, ?_, ?_⟩
            · intro j t hj
              match j, hj with
              | 3, _ => exact r1
              | 0, hj | 1, hj | 2, hj | 4, hj => simp [evK] at hj
              | _ + 5, hj => simp [evK] at hj
            · intro j p hj h1 h2 h3 u hu
              match j, hj, hu with
              | 0, _, hu => exact ⟨hu.1.grown r2 hlow.size (fun y e => (hrow.lt y e).1), Apart.kept (owns_apart hrow hu.2 (by decide)) hu.2 r2⟩
              | 1, hj, _ => cases hj; exact absurd rfl h1
              | 2, hj, _ => cases hj; exact absurd rfl h1
              | 3, hj, _ => cases hj; exact absurd rfl h2
              | 4, hj, _ => cases hj; exact Bool.noConfusion ((show true = _ from by kernel_rfl).trans (h3 11 rfl))
              | _ + 5, _, _ => trivial
          · have q10 := (hsee 85 10 (by kernel_rfl) rfl).1
            have hrow := hT.of 3 none 10 rfl (fun j h => by cases h) _ q10
            refine wp_of_run (run_assign _ _ _ _ _ _ _ 85 _ rfl) ⟨_, rfl, trivial, .below evP_below (Below.refl _ _) ?_⟩
            intro j t hj
            match j, hj with
            | 4, _ => exact hrow
            | 0, hj | 1, hj | 2, hj | 3, hj => simp [evK] at hj
            | _ + 5, hj => simp [evK] at hj
        intro e w5 hT hall
        obtain ⟨v0, h0⟩ := hall 0 (by decide)
        obtain ⟨v1, h1⟩ := hall 1 (by decide)
        obtain ⟨v2, h2⟩ := hall 2 (by decide)
        obtain ⟨v3, h3⟩ := hall 3 (by decide)
        obtain ⟨v4, h4⟩ := hall 4 (by decide)
        obtain ⟨v5, h5⟩ := hall 5 (by decide)
        obtain ⟨v6, h6⟩ := hall 6 (by decide)
        obtain ⟨v7, h7⟩ := hall 7 (by decide)
        obtain ⟨v8, h8⟩ := hall 8 (by decide)
        obtain ⟨v9, h9⟩ := hall 9 (by decide)
        obtain ⟨v10, h10⟩ := hall 10 (by decide)
        obtain ⟨v11, h11⟩ := hall 11 (by decide)
        have r11 := hT.of 4 none 11 rfl (fun _ h => by cases h) _ h11
        obtain ⟨l5, n5⟩ := hT.base 0 none rfl (fun _ h => by cases h)
        have HR5 := Lib.hid r11
        have HL5 := Lib.hid l5
        have HN5 := Lib.hid n5
        simp only [List.length_cons, List.length_nil, Nat.reduceAdd, fillTo, h0, h1, h2, h3, h4, h5, h6, h7, h8, h9, h10, h11, dstOf]
        clear hT hall h0 h1 h2 h3 h4 h5 h6 h7 h8 h9 h10 h11 r11 l5 n5 hfx hck hcl
        go_simp
        have hs5 : V.heap.size ≤ (w5.alloc (.cells #[.string Hld.noneB] 9)).heap.size := by rw [size_alloc]; have := HL5.out.size; omega
        have HNs : Hid (∀ (i : Nat) (u : Value), [Value.string Hld.noneB][i]? = some u → (w5.alloc (.cells #[.string Hld.noneB] 9)).cell? ((⟨w5.heap.size, 0, none⟩ : Addr).add i) = some u) := Lib.hid (by
          intro i u hu
          have e : (⟨w5.heap.size, 0, none⟩ : Addr).add i = ⟨w5.heap.size, i, none⟩ := by unfold Addr.add; split <;> simp_all
          rw [e, cell_alloc, if_pos rfl]
          simpa using hu)
        have HEnd : Hid (∀ w6 nv', (w5.alloc (.cells #[.string Hld.noneB] 9)).grownBy w6 nv.ownBlock → w6.ownsRow V.heap.size 9 1 nv' (X.length + 1) (strC (X.map (·.1)) ++ [.string Hld.noneB]) → Pairs V w6 nv' v11 (X ++ [Hld.eb hid2 mk])) := Lib.hid (fun w6 nv' hg ho => Pairs.snoc (x := Hld.eb hid2 mk) HL5.out HN5.out (by have h : w5.ownsRow V.heap.size 54 36 v11 (X.length + 1) (recsC (X.map (·.2) ++ [(Hld.eb hid2 mk).2])) := HR5.out; rw [recsC_snoc] at h; exact h) ((Below.refl _ _).alloc (Nat.le_refl _) _) hg ho)
        unfold Hld.noneB at HNs HEnd hs5
        go_wp2_with (at_builtin; refine wpList_append_own _ rfl _ _ 22 rfl V.heap.size 9 i1 (.string ⟨#[]⟩) 1 16 Try.underlying22 hi1 hy0 hy1 hy2 rfl (by decide) nv X.length (strC (X.map (·.1))) rfl (HN5.out.alloc _) ⟨w5.heap.size, 0, none⟩ 1 1 [.string ⟨#[110, 111, 110, 101]⟩] rfl rfl HNs.out (by simp [Value.oneCell']) (by unfold maxLen; omega) (by omega) hs5 ?_; intro nv' w6 hown hgrow _; have HFin := Lib.hid (HEnd.out w6 nv' hgrow hown); clear hown hgrow)
        go_round
        case rel => exact ⟨k + 1, _, _, by omega, by go_num, rfl, rfl, Lib.hid (by rw [HNx'.out]; exact HFin.out)⟩
        case measure => simp [intOf]; omega
    · obtain rfl : k = nn := by omega
      have hd2 : decide ((k : Int) < (k : Int)) = false := decide_eq_false (by omega)
      clear hd2
      obtain ⟨ao, ac, bo, bc, rfl, rfl⟩ := HX.out.shape
      have HOkX : Hid (∀ x ∈ X, RcOk x.2 ∧ IsInts V x.2.mo x.2.members) := Lib.hid (fun x hx => by
        rw [HXe.out] at hx
        rcases List.mem_append.1 hx with hx | hx
        · have := (List.of_mem_zip (show (x.1, x.2) ∈ ids.zip recs by rw [← HP.out]; exact hx)).2
          exact ⟨(HRV.out.1 _ this).1, (HRV.out.1 _ this).2⟩
        · obtain ⟨z, _, rfl⟩ := List.mem_map.1 hx
          exact ⟨mkR_ok 6 z hid2 ⟨#[]⟩ [] none 0 (by simp) (by have := HHm.out.2.2.2; omega) (by decide), Or.inl rfl⟩)
      have HSzX : Hid (∀ s ∈ X.map (·.1), s.size ≤ 9223372036854775807) := Lib.hid (fun s hs => by
        obtain ⟨x, hx, rfl⟩ := List.mem_map.1 hs
        rw [HXe.out] at hx
        rcases List.mem_append.1 hx with hx | hx
        · have := HSz.out _ (List.of_mem_zip (show (x.1, x.2) ∈ ids.zip recs by rw [← HP.out]; exact hx)).1
          omega
        · obtain ⟨z, _, rfl⟩ := List.mem_map.1 hx
          show Hld.noneB.size ≤ _
          decide)
      have HMmX : Hid (∀ r ∈ X.map (·.2), r.members.length ≤ 1000) := Lib.hid (fun r hr => by
        obtain ⟨x, hx, rfl⟩ := List.mem_map.1 hr
        rw [HXe.out] at hx
        rcases List.mem_append.1 hx with hx | hx
        · have := HMem.out _ (List.of_mem_zip (show (x.1, x.2) ∈ ids.zip recs by rw [← HP.out]; exact hx)).2
          omega
        · obtain ⟨z, _, rfl⟩ := List.mem_map.1 hx
          exact Nat.zero_le _)
      obtain ⟨l1, l2⟩ := HX.out.lists HOkX.out
      have HC := all_rows (X.map (·.1)) (X.map (·.2)) ao bo ac bc (by rw [List.length_map]; omega) (by rw [List.length_map]; omega) HSzX.out HMmX.out wr l1 l2 (by rw [List.length_map, List.length_map])
      have HL1 := Lib.hid l1
      have HL2 := Lib.hid l2
      clear l1 l2
      obtain ⟨E, HE⟩ : ∃ E, Hid (E = (Hld.auth h.members last k).map (Hld.eb hid2)) := ⟨_, Lib.hid rfl⟩
      obtain ⟨G, HG⟩ : ∃ G, Hid (G = H.map (Hld.backF E)) := ⟨_, Lib.hid rfl⟩
      obtain ⟨G2, HG2⟩ : ∃ G, Hid (G = H.map (Hld.backF (E ++ [Hld.eb hid2 last]))) := ⟨_, Lib.hid rfl⟩
      have HGl : Hid (G.length = q) := Lib.hid (by rw [HG.out, List.length_map, ← Hq.out])
      have HG2l : Hid (G2.length = q) := Lib.hid (by rw [HG2.out, List.length_map, ← Hq.out])
      have HXG : Hid (Hld.allF X = G) := Lib.hid (by
        rw [HXe.out, ← HE.out, HG.out, HHe.out]
        refine Hld.all_after P _ E rfl fun x hx => ?_
        rw [HE.out] at hx
        obtain ⟨z, _, rfl⟩ := List.mem_map.1 hx
        show (6 : Int) ≠ 5
        decide)
      have HXG2 : Hid (Hld.allF (X ++ [Hld.eb hid2 last]) = G2) := Lib.hid (by
        rw [HXe.out, ← HE.out, HG2.out, HHe.out, List.append_assoc]
        refine Hld.all_after P _ (E ++ [Hld.eb hid2 last]) rfl fun x hx => ?_
        rcases List.mem_append.1 hx with hx | hx
        · rw [HE.out] at hx
          obtain ⟨z, _, rfl⟩ := List.mem_map.1 hx
          show (6 : Int) ≠ 5
          decide
        · rw [List.mem_singleton.1 hx]; show (6 : Int) ≠ 5; decide)
      rw [zip_maps, List.length_map, List.length_map, HXG.out, HGl.out] at HC
      have HC := Lib.hid HC
      go_wp2_with fail
      refine HC.out.mono ?_
      rintro e w6 ⟨go, gc, csB, rfl, hrb, hcb, hqg, hb⟩
      have HRB := Lib.hid hrb
      have HCB := Lib.hid hcb
      have HB6 := Lib.hid (below_step HX.out.low hb)
      have HX6 := Lib.hid (HX.out.below hb)
      have HBox6 := Lib.hid (whole_below HBx.out hb)
      have HB6r := Lib.hid hb
      clear hrb hcb hb
      go_wp2_with fail
      have hgxV : gx < V.heap.size := HBox.out.lt
      have HRc : Hid (RcOk (Hld.eb hid2 last).2) := Lib.hid (mkR_ok 6 last hid2 ⟨#[]⟩ [] none 0 (by simp) (by have := HHm.out.2.2.2; omega) (by decide))
      have HD := Lib.hid (fun w co cc do' dc a b => all_any (X.map (·.1) ++ [⟨#[110, 111, 110, 101]⟩]) (X.map (·.2) ++ [(Hld.eb hid2 last).2]) co do' cc dc (by simp; omega) (by simp; omega) (fun s hs => by
        rcases List.mem_append.1 hs with hs | hs
        · exact HSzX.out s hs
        · rw [List.mem_singleton.1 hs]; decide) (fun r hr => by
        rcases List.mem_append.1 hr with hr | hr
        · exact HMmX.out r hr
        · rw [List.mem_singleton.1 hr]; exact Nat.zero_le _) w a b (by simp))
      have hzip : (X.map (·.1) ++ [(⟨#[110, 111, 110, 101]⟩ : ByteArray)]).zip (X.map (·.2) ++ [(Hld.eb hid2 last).2]) = X ++ [Hld.eb hid2 last] := by
        rw [List.zip_append (by simp), zip_maps]; rfl
      rw [hzip, HXG2.out, HG2l.out] at HD
      have hN1 : (X.map (·.1) ++ [(⟨#[110, 111, 110, 101]⟩ : ByteArray)]).length = X.length + 1 := by simp
      have hR1 : (X.map (·.2) ++ [(Hld.eb hid2 last).2]).length = X.length + 1 := by simp
      rw [hN1, hR1] at HD
      clear hzip
      apply wp_region_facts 147 evK2 (evP2 V.heap.size w6 (.slice bo X.length bc) (.slice ao X.length ac) X.length (X.map (·.1)) (X.map (·.2)) (Hld.eb hid2 last).2 q G2) (evV2 (.slice bo X.length bc) (.slice ao X.length ac) gx bm om n mc k last hid2) (by kernel_rfl) (by kernel_rfl) rfl
      · intro j t hj
        match j, hj with
        | 0, _ => exact ⟨⟨(Below.refl _ _).drew, fun _ _ _ _ h => owns_below h (Below.refl _ _).drew, fun _ _ _ _ h => owns_below h (Below.refl _ _).drew⟩, HB6.out.size⟩
        | 1, _ => exact owns_below HX6.out.names (Below.refl _ _).drew
        | 4, _ => exact owns_below HX6.out.recs (Below.refl _ _).drew
        | 2, hj | 3, hj | 5, hj | 6, hj | 7, hj | 8, hj => simp [evK2] at hj
        | _ + 9, hj => simp [evK2] at hj
      · intro i o ho' e w A' hT hei hsee haway
        have h10 : A'.eval (.tmp 10) = .pointer (some ⟨gx, 0, none⟩) := (haway 10 (by kernel_rfl)).trans rfl
        have h11 : A'.eval (.tmp 11) = .int .i64 n := (haway 11 (by kernel_rfl)).trans rfl
        have h12 : A'.eval (.tmp 12) = .slice bo X.length bc := (haway 12 (by kernel_rfl)).trans rfl
        have h13 : A'.eval (.tmp 13) = .slice ao X.length ac := (haway 13 (by kernel_rfl)).trans rfl
        obtain ⟨hkp, hsz⟩ := hT.base 0 none rfl (fun _ h => by cases h)
        have hlow : Below V.heap.size V w := HB6.out.trans hkp.low
        have hbox := whole_below HBox.out hlow
        have hi : i < 17 := by have := (List.getElem?_eq_some_iff.1 ho').1; simpa using this
        have hi : i = 0 ∨ i = 1 ∨ i = 2 ∨ i = 3 ∨ i = 4 ∨ i = 5 ∨ i = 6 ∨ i = 7 ∨ i = 8 ∨ i = 9 ∨ i = 10 ∨ i = 11 ∨ i = 12 ∨ i = 13 ∨ i = 14 ∨ i = 15 ∨ i = 16 := by omega
        rcases hi with rfl | rfl | rfl | rfl | rfl | rfl | rfl | rfl | rfl | rfl | rfl | rfl | rfl | rfl | rfl | rfl | rfl
        all_goals
          simp only [List.getElem?_cons_succ, List.getElem?_cons_zero, Option.some.injEq] at ho'
          subst ho'
        · exact wp_of_run (run_move _ _ _ _ _ _ _ 13 _ h13) ⟨_, rfl, rfl, .plain evP2_below (Below.refl _ _) (by decide)⟩
        · refine wp_of_run (run_one_none _ _ _ _ _ _ _) ⟨_, rfl, trivial, .below evP2_below ((Below.refl _ _).alloc (Nat.le_refl _) _) ?_⟩
          intro j t hj
          match j, hj with
          | 2, _ => exact ⟨_, rfl, Whole.new _ _ _⟩
          | 0, hj | 1, hj | 3, hj | 4, hj | 5, hj | 6, hj | 7, hj | 8, hj => simp [evK2] at hj
          | _ + 9, hj => simp [evK2] at hj
        · have q0 : A'.eval (.tmp 92) = .slice ao X.length ac := (hsee 92 0 (by kernel_rfl) rfl).2
          obtain ⟨g, q1, q2⟩ := hT.of 2 (some 2) 1 rfl (fun j h => by cases h; exact hei) _ (hsee 93 1 (by kernel_rfl) rfl).1
          have hrow : w.ownsRow V.heap.size 9 1 (.slice ao X.length ac) X.length (strC (X.map (·.1))) := hT.base 1 (some 2) rfl (fun j h => by cases h; exact hei)
          obtain ⟨v, w', hr, r1, r2⟩ := ag_names 22 (by omega) hsz hrow q2
          refine wp_of_run (run_append_str _ _ _ _ _ _ _ w' 92 93 _ _ _ q0 q1 hr) ⟨_, rfl, trivial, ?_, ?_⟩
          · intro j t hj
            match j, hj with
            | 3, _ => exact r1
            | 0, hj | 1, hj | 2, hj | 4, hj | 5, hj | 6, hj | 7, hj | 8, hj => simp [evK2] at hj
            | _ + 9, hj => simp [evK2] at hj
          · intro j p hj h1 h2 h3 u hu
            match j, hj, hu with
            | 0, _, hu => exact ⟨hu.1.grown hu.2 (by decide) (by decide) hrow r2, Nat.le_trans hu.2 r2.size⟩
            | 1, hj, _ => cases hj; exact absurd rfl h1
            | 2, hj, _ => cases hj; exact absurd rfl h1
            | 3, hj, _ => cases hj; exact absurd rfl h2
            | 4, _, hu => exact Apart.kept (owns_apart hrow hu (by decide)) hu r2
            | 5, _, ⟨g, h1, h2⟩ => exact ⟨g, h1, whole_grown h2 r2 (owns_whole hrow h2 (by decide))⟩
            | 6, _, hu => exact Apart.kept (owns_apart hrow hu (by decide)) hu r2
            | 7, hj, _ => cases hj; exact Bool.noConfusion ((show true = _ from by kernel_rfl).trans (h3 15 rfl))
            | 8, hj, _ => cases hj; exact Bool.noConfusion ((show true = _ from by kernel_rfl).trans (h3 16 rfl))
            | _ + 9, _, _ => trivial
        · exact wp_of_run (run_move _ _ _ _ _ _ _ 12 _ h12) ⟨_, rfl, rfl, .plain evP2_below (Below.refl _ _) (by decide)⟩
        · exact wp_of_run (run_field_hold _ _ _ _ _ _ _ 2 (by decide) 10 gx h10) ⟨_, rfl, rfl, .plain evP2_below (Below.refl _ _) (by decide)⟩
        · have q4 : A'.eval (.tmp 96) = .pointer (some ⟨gx, 2, none⟩) := (hsee 96 4 (by kernel_rfl) rfl).2
          exact wp_of_run (run_load_one _ _ _ _ _ _ _ _ (Or.inr rfl) 96 _ _ q4 (hbox.cell 2)) ⟨_, rfl, rfl, .plain evP2_below (Below.refl _ _) (by decide)⟩
        · exact wp_of_run (run_move _ _ _ _ _ _ _ 11 _ h11) ⟨_, rfl, rfl, .plain evP2_below (Below.refl _ _) (by decide)⟩
        · have q6 : A'.eval (.tmp 98) = .int .i64 n := (hsee 98 6 (by kernel_rfl) rfl).2
          exact wp_of_run (run_prev_int _ _ _ _ _ _ _ 98 k n Hnn.out (by omega) q6) ⟨_, rfl, rfl, .plain evP2_below (Below.refl _ _) (by decide)⟩
        · have q5 : A'.eval (.tmp 97) = .slice (some ⟨bm, om, none⟩) n mc := (hsee 97 5 (by kernel_rfl) rfl).2
          have q7 : A'.eval (.tmp 99) = .int .i64 k := (hsee 99 7 (by kernel_rfl) rfl).2
          exact wp_of_run (run_index_int _ _ _ _ _ _ _ 97 99 bm om n mc k (by have := Hnn.out; omega) q5 q7) ⟨_, rfl, rfl, .plain evP2_below (Below.refl _ _) (by decide)⟩
        · have q8 : A'.eval (.tmp 100) = .pointer (some ⟨bm, om + k, none⟩) := (hsee 100 8 (by kernel_rfl) rfl).2
          exact wp_of_run (run_load_one _ _ _ _ _ _ _ _ (Or.inl rfl) 100 _ _ q8 ((cell_below hlow hbm).trans hcl)) ⟨_, rfl, rfl, .plain evP2_below (Below.refl _ _) (by decide)⟩
        · exact wp_of_run (run_field_hold _ _ _ _ _ _ _ 0 (by decide) 10 gx h10) ⟨_, rfl, rfl, .plain evP2_below (Below.refl _ _) (by decide)⟩
        · have q10 : A'.eval (.tmp 102) = .pointer (some ⟨gx, 0, none⟩) := (hsee 102 10 (by kernel_rfl) rfl).2
          exact wp_of_run (run_load_str _ _ _ _ _ _ _ 102 _ _ q10 (hbox.cell 0)) ⟨_, rfl, rfl, .plain evP2_below (Below.refl _ _) (by decide)⟩
        · have q9 : A'.eval (.tmp 101) = .int .i64 last := (hsee 101 9 (by kernel_rfl) rfl).2
          have q11 : A'.eval (.tmp 103) = .string hid2 := (hsee 103 11 (by kernel_rfl) rfl).2
          refine wp_of_call2 _ _ _ _ _ _ _ 19 _ 101 103 _ _ q9 q11 (by kernel_rfl) ?_
          refine (back_any last hid2 w).mono ?_
          rintro e' w' ⟨rfl, hb'⟩
          exact ⟨_, rfl, _, rfl, rfl, .plain evP2_below hb' (by decide)⟩
        · have q12 : A'.eval (.tmp 104) = .agg (Hld.eb hid2 last).2.cells.toArray := (hsee 104 12 (by kernel_rfl) rfl).2
          refine wp_of_run (run_one_rec _ _ _ _ _ _ _ 104 _ HRc.out.len q12) ⟨_, rfl, trivial, .below evP2_below ((Below.refl _ _).alloc (Nat.le_refl _) _) ?_⟩
          intro j t hj
          match j, hj with
          | 5, _ => exact ⟨_, rfl, Whole.new _ _ _⟩
          | 0, hj | 1, hj | 2, hj | 3, hj | 4, hj | 6, hj | 7, hj | 8, hj => simp [evK2] at hj
          | _ + 9, hj => simp [evK2] at hj
        · have q3 : A'.eval (.tmp 95) = .slice bo X.length bc := (hsee 95 3 (by kernel_rfl) rfl).2
          obtain ⟨g, q13, q14⟩ := hT.of 5 (some 14) 13 rfl (fun j h => by cases h; exact hei) _ (hsee 105 13 (by kernel_rfl) rfl).1
          have hrow : w.ownsRow V.heap.size 54 36 (.slice bo X.length bc) X.length (recsC (X.map (·.2))) := hT.base 4 (some 14) rfl (fun j h => by cases h; exact hei)
          obtain ⟨v, w', hr, r1, r2⟩ := ag_recs 23 (by omega) hsz HRc.out hrow q14
          refine wp_of_run (run_append_rec _ _ _ _ _ _ _ w' 95 105 _ _ _ q3 q13 hr) ⟨_, rfl, trivial, ?_, ?_⟩
          · intro j t hj
            match j, hj with
            | 6, _ => exact r1
            | 0, hj | 1, hj | 2, hj | 3, hj | 4, hj | 5, hj | 7, hj | 8, hj => simp [evK2] at hj
            | _ + 9, hj => simp [evK2] at hj
          · intro j p hj h1 h2 h3 u hu
            match j, hj, hu with
            | 0, _, hu => exact ⟨hu.1.grown hu.2 (by decide) (by decide) hrow r2, Nat.le_trans hu.2 r2.size⟩
            | 1, _, hu => exact Apart.kept (owns_apart hrow hu (by decide)) hu r2
            | 2, _, ⟨g, h1, h2⟩ => exact ⟨g, h1, whole_grown h2 r2 (owns_whole hrow h2 (by decide))⟩
            | 3, _, hu => exact Apart.kept (owns_apart hrow hu (by decide)) hu r2
            | 4, hj, _ => cases hj; exact absurd rfl h1
            | 5, hj, _ => cases hj; exact absurd rfl h1
            | 6, hj, _ => cases hj; exact absurd rfl h2
            | 7, hj, _ => cases hj; exact Bool.noConfusion ((show true = _ from by kernel_rfl).trans (h3 15 rfl))
            | 8, hj, _ => cases hj; exact Bool.noConfusion ((show true = _ from by kernel_rfl).trans (h3 16 rfl))
            | _ + 9, _, _ => trivial
        · have r3 := hT.of 3 none 2 rfl (fun _ h => by cases h) _ (hsee 94 2 (by kernel_rfl) rfl).1
          have r6 := hT.of 6 none 14 rfl (fun _ h => by cases h) _ (hsee 106 14 (by kernel_rfl) rfl).1
          have r3 : w.ownsRow V.heap.size 9 1 (A'.eval (.tmp 94)) (X.length + 1) (strC (X.map (·.1) ++ [⟨#[110, 111, 110, 101]⟩])) := r3
          have r6 : w.ownsRow V.heap.size 54 36 (A'.eval (.tmp 106)) (X.length + 1) (recsC (X.map (·.2) ++ [(Hld.eb hid2 last).2])) := r6
          obtain ⟨co, cc, s3⟩ := owns_shape r3
          obtain ⟨do', dc, s6⟩ := owns_shape r6
          rw [s3] at r3
          rw [s6] at r6
          refine wp_of_call2 _ _ _ _ _ _ _ 11 _ 94 106 _ _ s3 s6 (by kernel_rfl) ?_
          refine (HD.out w co cc do' dc (strs_of_row (B := V.heap.size) (c := cc) (by rw [hN1]; exact r3)) (recs_of_row (B := V.heap.size) (c := dc) (by rw [hR1]; exact r6) (fun r hr => by
            rcases List.mem_append.1 hr with hr | hr
            · obtain ⟨x, hx, rfl⟩ := List.mem_map.1 hr
              exact ⟨(HOkX.out x hx).1, (HOkX.out x hx).2.below hlow⟩
            · rw [List.mem_singleton.1 hr]; exact ⟨HRc.out, Or.inl rfl⟩))).mono ?_
          rintro e' w' ⟨eo, ec, rfl, hh, -, hb⟩
          refine ⟨_, rfl, _, rfl, trivial, .below evP2_below hb ?_⟩
          intro j t hj
          match j, hj with
          | 7, _ => exact ⟨eo, ec, rfl, hh⟩
          | 0, hj | 1, hj | 2, hj | 3, hj | 4, hj | 5, hj | 6, hj | 8, hj => simp [evK2] at hj
          | _ + 9, hj => simp [evK2] at hj
        · have r7 := hT.of 7 none 15 rfl (fun _ h => by cases h) _ (hsee 107 15 (by kernel_rfl) rfl).1
          refine wp_of_run (run_assign _ _ _ _ _ _ _ 107 _ rfl) ⟨_, rfl, trivial, .below evP2_below (Below.refl _ _) ?_⟩
          intro j t hj
          match j, hj with
          | 8, _ => exact r7
          | 0, hj | 1, hj | 2, hj | 3, hj | 4, hj | 5, hj | 6, hj | 7, hj => simp [evK2] at hj
          | _ + 9, hj => simp [evK2] at hj
      intro e w7 hT hall
      obtain ⟨v0, h0⟩ := hall 0 (by decide)
      obtain ⟨v1, h1⟩ := hall 1 (by decide)
      obtain ⟨v2, h2⟩ := hall 2 (by decide)
      obtain ⟨v3, h3⟩ := hall 3 (by decide)
      obtain ⟨v4, h4⟩ := hall 4 (by decide)
      obtain ⟨v5, h5⟩ := hall 5 (by decide)
      obtain ⟨v6, h6⟩ := hall 6 (by decide)
      obtain ⟨v7, h7⟩ := hall 7 (by decide)
      obtain ⟨v8, h8⟩ := hall 8 (by decide)
      obtain ⟨v9, h9⟩ := hall 9 (by decide)
      obtain ⟨v10, h10⟩ := hall 10 (by decide)
      obtain ⟨v11, h11⟩ := hall 11 (by decide)
      obtain ⟨v12, h12⟩ := hall 12 (by decide)
      obtain ⟨v13, h13⟩ := hall 13 (by decide)
      obtain ⟨v14, h14⟩ := hall 14 (by decide)
      obtain ⟨v15, h15⟩ := hall 15 (by decide)
      obtain ⟨v16, h16⟩ := hall 16 (by decide)
      obtain ⟨eo, ec, rfl, hEG⟩ := hT.of 8 none 16 rfl (fun _ h => by cases h) _ h16
      obtain ⟨hkp, hsz7⟩ := hT.base 0 none rfl (fun _ h => by cases h)
      have HEG := Lib.hid hEG
      have HKp := Lib.hid hkp
      simp only [List.length_cons, List.length_nil, Nat.reduceAdd, fillTo, h0, h1, h2, h3, h4, h5, h6, h7, h8, h9, h10, h11, h12, h13, h14, h15, h16, dstOf]
      clear hT hall h0 h1 h2 h3 h4 h5 h6 h7 h8 h9 h10 h11 h12 h13 h14 h15 h16 hEG hkp hsz7 hN1 hR1
      go_simp
      have HBV7 := Lib.hid (HB6.out.trans HKp.out.low)
      have HB7 := Lib.hid (below_step HBV.out HBV7.out)
      have HGs := Lib.hid (show IsHolds w7 go G from holds_of_row (W := V) (l := G) HGl.out.symm (HKp.out.holds _ _ _ _ HRB.out) (HCB.out.mono (J' := IJ V w7) fun _ _ _ h => Or.inr (owns_base (HKp.out.nums _ _ _ _ h) HX.out.low.size)) HBV7.out)
      have hkG : kk < G.length := by rw [HGl.out]; exact hkq
      have hkG2 : kk < G2.length := by rw [HG2l.out]; exact hkq
      have HGk : Hid (G[kk] = Hld.backF E h) := Lib.hid (by rw [Hh.out]; simp only [HG.out, List.getElem_map])
      have HGk2 : Hid (G2[kk] = Hld.backF (E ++ [Hld.eb hid2 last]) h) := Lib.hid (by rw [Hh.out]; simp only [HG2.out, List.getElem_map])
      obtain ⟨cb, Hcb⟩ : ∃ u, Hid (u = h.back.contains last) := ⟨_, Lib.hid rfl⟩
      have hkm : h.members.length = k + 1 := by rw [← Hnm.out]; exact Hnn.out
      have HO1 : Hid (Hld.out G[kk] = !cb) := Lib.hid (by
        obtain ⟨hl, hz⟩ := Hlast.out
        have := Hld.most_out hkm
        rw [← hz] at this
        rw [HGk.out, HE.out, Hcb.out, Hhid.out]
        exact this)
      have HO2 : Hid (Hld.out G2[kk] = false) := Lib.hid (by
        obtain ⟨hl, hz⟩ := Hlast.out
        have := Hld.full_out hkm
        rw [← hz, List.map_append, List.map_cons, List.map_nil] at this
        rw [HGk2.out, HE.out, Hhid.out]
        exact this)
      have HGb : Hid (∀ u ∈ G, u.members.length ≤ 1000 ∧ u.back.length ≤ 1000) := Lib.hid (fun u hu => by
        rw [← HXG.out] at hu
        obtain ⟨⟨y, hy, _, e⟩, e2⟩ := Hld.all_mem hu
        have := HMmX.out _ (List.mem_map.2 ⟨y, hy, rfl⟩)
        rw [e]
        exact ⟨this, by omega⟩)
      have HGb2 : Hid (∀ u ∈ G2, u.members.length ≤ 1000 ∧ u.back.length ≤ 1000) := Lib.hid (fun u hu => by
        rw [← HXG2.out] at hu
        obtain ⟨⟨y, hy, _, e⟩, e2⟩ := Hld.all_mem hu
        rw [List.length_append] at e2
        refine ⟨?_, by simp at e2; omega⟩
        rw [e]
        rcases List.mem_append.1 hy with hy | hy
        · exact HMmX.out _ (List.mem_map.2 ⟨y, hy, rfl⟩)
        · rw [List.mem_singleton.1 hy]; exact Nat.zero_le _)
      have hb1' := HGb.out _ (List.getElem_mem hkG)
      have hb2' := HGb2.out _ (List.getElem_mem hkG2)
      obtain ⟨h1, Hh1⟩ : ∃ u, Hid (u = G[kk]) := ⟨_, Lib.hid rfl⟩
      obtain ⟨h2, Hh2⟩ : ∃ u, Hid (u = G2[kk]) := ⟨_, Lib.hid rfl⟩
      obtain ⟨bg, og, rfl, hbg, a0, a1, mo3, mc3, bo3, bc3, a2, a3, a4, a5⟩ := HGs.out.at hkG
      obtain ⟨bf, of, rfl, hbf, c0, c1, mo4, mc4, bo4, bc4, c2, c3, c4, c5⟩ := HEG.out.at hkG2
      rw [← Hh1.out] at a0 a1 a2 a3 a4 a5 hb1' HO1
      rw [← Hh2.out] at c0 c1 c2 c3 c4 c5 hb2' HO2
      have HOut1 : Hid (∀ x : Grown w7, Calls Try.prog 13 #[hdV h1 mo3 mc3 bo3 bc3] x.w fun e w' => e = .returned (.bool !cb) ∧ Below x.w.heap.size x.w w') := Lib.hid (fun x => by
        have := out_any h1 mo3 mc3 bo3 bc3 (by omega) (by omega) x.w (a4.below x.below) (a5.below x.below)
        rw [HO1.out] at this
        exact this)
      have HOut2 : Hid (∀ x : Grown w7, Calls Try.prog 13 #[hdV h2 mo4 mc4 bo4 bc4] x.w fun e w' => e = .returned (.bool false) ∧ Below x.w.heap.size x.w w') := Lib.hid (fun x => by
        have := out_any h2 mo4 mc4 bo4 bc4 (by omega) (by omega) x.w (c4.below x.below) (c5.below x.below)
        rw [HO2.out] at this
        exact this)
      have HIn : Hid (∀ x : Grown w7, Calls Try.prog 18 #[.slice bo2 bl bc2, .int .i64 last] x.w fun e w' => e = .returned (.bool cb) ∧ x.w = w') := Lib.hid (fun x => by
        have := in_any bo2 h.back bc2 last (by have := HHm.out.2.2.1; omega) x.w (HM5V.out.below (below_step HBV7.out x.below))
        rw [← Hbl.out, ← Hcb.out] at this
        exact this)
      unfold hdV at HOut1 HOut2
      obtain ⟨x0, Hx0⟩ : ∃ u, Hid (u = h1.id) := ⟨_, Lib.hid rfl⟩
      obtain ⟨x1, Hx1⟩ : ∃ u, Hid (u = h1.vehicle) := ⟨_, Lib.hid rfl⟩
      obtain ⟨x2, Hx2⟩ : ∃ u, Hid (u = h1.members.length) := ⟨_, Lib.hid rfl⟩
      obtain ⟨x3, Hx3⟩ : ∃ u, Hid (u = h1.back.length) := ⟨_, Lib.hid rfl⟩
      obtain ⟨y0, Hy0⟩ : ∃ u, Hid (u = h2.id) := ⟨_, Lib.hid rfl⟩
      obtain ⟨y1, Hy1⟩ : ∃ u, Hid (u = h2.vehicle) := ⟨_, Lib.hid rfl⟩
      obtain ⟨y2, Hy2⟩ : ∃ u, Hid (u = h2.members.length) := ⟨_, Lib.hid rfl⟩
      obtain ⟨y3, Hy3⟩ : ∃ u, Hid (u = h2.back.length) := ⟨_, Lib.hid rfl⟩
      rw [← Hx0.out, ← Hx1.out, ← Hx2.out, ← Hx3.out] at HOut1
      rw [← Hy0.out, ← Hy1.out, ← Hy2.out, ← Hy3.out] at HOut2
      rw [← Hx0.out] at a0
      rw [← Hx1.out] at a1
      rw [← Hx2.out] at a2
      rw [← Hx3.out] at a3
      rw [← Hy0.out] at c0
      rw [← Hy1.out] at c1
      rw [← Hy2.out] at c2
      rw [← Hy3.out] at c3
      have gx0 : ∀ X : Grown w7, X.w.cell? ⟨bg, og + kk * 4, none⟩ = some (.string x0) := fun X => by rw [X.cell hbg]; exact a0
      have gx1 : ∀ X : Grown w7, X.w.cell? ⟨bg, og + kk * 4 + 1, none⟩ = some (.string x1) := fun X => by rw [X.cell hbg]; exact a1
      have gx2 : ∀ X : Grown w7, X.w.cell? ⟨bg, og + kk * 4 + 2, none⟩ = some (.slice mo3 x2 mc3) := fun X => by rw [X.cell hbg]; exact a2
      have gx3 : ∀ X : Grown w7, X.w.cell? ⟨bg, og + kk * 4 + 3, none⟩ = some (.slice bo3 x3 bc3) := fun X => by rw [X.cell hbg]; exact a3
      have gy0 : ∀ X : Grown w7, X.w.cell? ⟨bf, of + kk * 4, none⟩ = some (.string y0) := fun X => by rw [X.cell hbf]; exact c0
      have gy1 : ∀ X : Grown w7, X.w.cell? ⟨bf, of + kk * 4 + 1, none⟩ = some (.string y1) := fun X => by rw [X.cell hbf]; exact c1
      have gy2 : ∀ X : Grown w7, X.w.cell? ⟨bf, of + kk * 4 + 2, none⟩ = some (.slice mo4 y2 mc4) := fun X => by rw [X.cell hbf]; exact c2
      have gy3 : ∀ X : Grown w7, X.w.cell? ⟨bf, of + kk * 4 + 3, none⟩ = some (.slice bo4 y3 bc4) := fun X => by rw [X.cell hbf]; exact c3
      have hgx7 : gx < w7.heap.size := Nat.lt_of_lt_of_le hgxV HBV7.out.size
      have hbm7 : bm < w7.heap.size := Nat.lt_of_lt_of_le hbm HBV7.out.size
      have hbox7 := whole_below HBox.out HBV7.out
      have gz2 : ∀ Y : Grown w7, Y.w.cell? ⟨gx, 2, none⟩ = some (.slice (some ⟨bm, om, none⟩) n mc) := fun Y => by rw [Y.cell hgx7]; exact hbox7.cell 2
      have gz3 : ∀ Y : Grown w7, Y.w.cell? ⟨gx, 3, none⟩ = some (.slice bo2 bl bc2) := fun Y => by rw [Y.cell hgx7]; exact hbox7.cell 3
      have gzn : ∀ Y : Grown w7, Y.w.cell? ⟨bm, om + k, none⟩ = some (.int .i64 last) := fun Y => by rw [Y.cell hbm7]; exact (cell_below HBV7.out hbm).trans hcl
      have hb0k : (0 : Int) ≤ k := by omega
      have hb1k : (k : Int) < n := by have := Hnn.out; omega
      clear a0 a1 a2 a3 a4 a5 c0 c1 c2 c3 c4 c5 hb1' hb2' hcl hbox7
      cases cb
      all_goals
        go_wp2_with fail
        refine wp_region_grown (by kernel_rfl) (by kernel_rfl) ?_
        iterate 7 (go_big_quiet_step (exact grown_of (HOut1.out _)))
        iterate 9 (go_big_quiet_step (exact grown_of_same (HIn.out _)))
        repeat (go_big_quiet_step (exact grown_of (HOut2.out _)))
        refine wpQuiet_nil ?_
        rintro _ ⟨Y, rfl⟩
        go_wp2_with fail
        go_ret
        exact ⟨rfl, below_step HB7.out Y.below⟩
theorem everybody_row (ids : List ByteArray) (io : Option Addr) (ic : Nat) (hm : ids.length * 16 ≤ 140737488351232) (recs : List Rc) (ro : Option Addr) (rc : Nat) (hn : recs.length * 480 ≤ 140737488351232) (raw : Int) (hr0 : 0 ≤ raw) (hr255 : raw ≤ 255) (W : World) (hi : IsStrs W io ids) (hr : IsRecs W ro recs) :
    Calls Try.prog 5 #[.slice io ids.length ic, .slice ro recs.length rc, .int .u8 raw] W fun e w' => e = .returned (.bool true) ∧ Below W.heap.size W w' := everybody_any ids recs raw hr0 hr255 io ro ic rc hn hm W hi hr

end Go.Proofs.Ytfokbcakbbdlaaa
