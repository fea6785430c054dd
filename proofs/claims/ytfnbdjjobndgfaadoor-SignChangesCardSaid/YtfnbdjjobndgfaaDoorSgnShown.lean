/- The walks of the reference's Shown, chained and node. -/
import Derived.Test.YtfnbdjjobndgfaaDoorSgnRefA
import Derived.Test.YtfnbdjjobndgfaaDoorSgnColl
import Derived.Test.YtfnbdjjobndgfaaDoorAppApart
import Derived.Test.YtfnbdjjobndgfaaDoorHeldIn
import Derived.Test.YtfnbdjjobndgfaaDoorSgnForm
namespace Go.Proofs.YtfnbdjjobndgfaaDoor
open Go.RowKit

/-- Two different texts of a list have one digest. -/
def Coll (l : List ByteArray) : Prop := ∃ x ∈ l, ∃ y ∈ l, Sgn.dg x = Sgn.dg y ∧ x ≠ y
theorem not_coll {l : List ByteArray} (h : ¬ Coll l) : Sgn.Inj l := fun x hx y hy e => Classical.byContradiction fun hne => h ⟨x, hx, y, hy, e, hne⟩
def ShownPost (w : World) (l : List ByteArray) (e : Ending) (w' : World) : Prop := ∃ b, e = .returned (.bool b) ∧ (Coll l → b = true) ∧ Below w.heap.size w w'
def sumsV (l : List ByteArray) : List ByteArray := l.map Sgn.dg
theorem sums_take (l : List ByteArray) (k : Nat) (h : k < l.length) : (sumsV l).take (k + 1) = (sumsV l).take k ++ [Sgn.dg l[k]] := by
  unfold sumsV
  rw [List.take_succ_eq_append_getElem (by simpa using h)]
  simp
theorem no_pair {l : List ByteArray} (h : ∀ a b, (ha : a < l.length) → (hb : b < l.length) → b < a → Sgn.dg l[a] = Sgn.dg l[b] → l[a] = l[b]) : ¬ Coll l := by
  rintro ⟨x, hx, y, hy, e, hne⟩
  obtain ⟨a, ha, rfl⟩ := List.getElem_of_mem hx
  obtain ⟨b, hb, rfl⟩ := List.getElem_of_mem hy
  rcases Nat.lt_trichotomy a b with hab | hab | hab
  · exact hne (h b a hb ha hab e.symm).symm
  · subst hab; exact hne rfl
  · exact hne (h a b ha hb hab e)

set_option maxHeartbeats 4000000 in
theorem refShown_any (ao : Option Addr) (l : List ByteArray) (cap : Nat) (hn : l.length ≤ 100000) (hz : ∀ s ∈ l, s.size ≤ 100000) (w : World) (h : IsStrs w ao l) :
    Calls Tryd.prog 22 #[.slice ao l.length cap] w (ShownPost w l) := by
  obtain ⟨i1, hi1, hy0, hy1, hy2⟩ := info_parts info_str
  obtain ⟨n, Hn⟩ : ∃ n, Hid (n = l.length) := ⟨_, Lib.hid rfl⟩
  have HS := Lib.hid h
  have HZ := Lib.hid hz
  rw [← Hn.out] at hn ⊢
  clear h hz
  go_enter Tryd.func22, Tryd.ntmps22
  go_wp2
  go_loopw [3, 4] (fun o i wr => ∃ k : Nat, k ≤ n ∧ i = .int .i64 k ∧ ∃ eo ec, o = .slice eo k ec ∧ Hid (Below w.heap.size w wr ∧ wr.ownsRow w.heap.size 9 1 (.slice eo k ec) k (strC ((sumsV l).take k)))) (fun _ i _ => n - (intOf i).toNat)
  case atStart => exact ⟨0, by omega, rfl, none, 0, rfl, Lib.hid ⟨Below.refl _ _, World.ownsRow_nil _ _ _ _⟩⟩
  case round =>
    obtain ⟨k, hk, rfl, eo, ec, rfl, HE⟩ := hrel
    by_cases hlt : k < n
    · have hlt' : (k : Int) < n := by omega
      have hks : k < l.length := by rw [← Hn.out]; exact hlt
      obtain ⟨bk, off, rfl, hbk, hc⟩ := strs_at (HS.out.below HE.out.1) hks
      have d1 := hc k hks
      obtain ⟨s, Hs⟩ : ∃ s, Hid (s = l[k]) := ⟨_, Lib.hid rfl⟩
      rw [← Hs.out] at d1
      have hsz : s.size ≤ 100000 := by rw [Hs.out]; exact HZ.out _ (List.getElem_mem _)
      have HC := Lib.hid (refSum_any s (by omega) wr)
      obtain ⟨y, Hy⟩ : ∃ y, Hid (y = digestOf s.data.toList) := ⟨_, Lib.hid rfl⟩
      rw [← Hy.out] at HC
      have HTk : Hid ((sumsV l).take (k + 1) = (sumsV l).take k ++ [y]) := Lib.hid (by rw [sums_take l k hks, Hy.out, Hs.out]; rfl)
      have HNw := Lib.hid (newCell wr y)
      clear hc
      go_wp2_with fail
      refine HC.out.mono ?_
      rintro e _ ⟨rfl, rfl⟩
      go_wp2_with (at_builtin; go_loud (refine wpList_append_own _ rfl (.tmp 13) (.tmp 19) 22 rfl w.heap.size 9 i1 (.string ⟨#[]⟩) 1 16 Tryd.underlying22 hi1 hy0 hy1 hy2 rfl (by decide) _ _ _ rfl (HE.out.2.alloc _) ⟨wr.heap.size, 0, none⟩ 1 1 [.string y] rfl rfl HNw.out (by simp [Value.oneCell']) (by unfold maxLen; omega) (by omega) (by have := HE.out.1.size; rw [size_alloc]; omega) ?_); intro v' w10 hown hgrow _; obtain ⟨g', cap', rfl⟩ := owns_succ' hown; have HW10 := Lib.hid hown; have HG10 := Lib.hid hgrow; clear hown hgrow)
      go_roundw
      case rel =>
        refine ⟨k + 1, by omega, by go_num, some ⟨g', 0, none⟩, cap', rfl, Lib.hid ⟨?_, ?_⟩⟩
        · exact (HE.out.1.alloc HE.out.1.size _).grown HG10.out (by have := HE.out.1.size; rw [size_alloc]; omega) (fun j e => (HE.out.2.lt j e).1)
        · rw [HTk.out, strC_snoc]
          exact HW10.out
      case measure => simp [intOf]; omega
    · obtain rfl : k = n := by omega
      obtain ⟨wo, rfl⟩ : ∃ y, y = wr := ⟨_, rfl⟩
      have HSm : Hid (IsStrs wo eo (sumsV l)) := Lib.hid (by
        have h1 := HE.out.2
        rw [List.take_of_length_le (by rw [Hn.out]; simp [sumsV])] at h1
        exact strs_of_row h1 (by rw [Hn.out]; simp [sumsV]))
      have HBo := Lib.hid HE.out.1
      go_wp2_with fail
      go_loopw [5] (fun i wr => ∃ a : Nat, a ≤ k ∧ i = .int .i64 a ∧ Hid (∀ x y, (hx : x < l.length) → (hy : y < l.length) → y < x → x < a → Sgn.dg l[x] = Sgn.dg l[y] → l[x] = l[y]) ∧ Hid (Below wo.heap.size wo wr)) (fun i _ => k - (intOf i).toNat)
      case atStart => exact ⟨0, by omega, rfl, Lib.hid fun x y _ _ _ h => by omega, Lib.hid (Below.refl _ _)⟩
      case round =>
        obtain ⟨a, ha, rfl, HP, HB⟩ := hrel
        by_cases hlt : a < k
        · have hlt' : (a : Int) < k := by omega
          have hal : a < l.length := by rw [← Hn.out]; exact hlt
          obtain ⟨wp, rfl⟩ : ∃ y, y = wr := ⟨_, rfl⟩
          go_wp2_with fail
          go_loopw [6] (fun i wr => ∃ b : Nat, b ≤ a ∧ i = .int .i64 b ∧ Hid (∀ y, (hy : y < l.length) → y < b → Sgn.dg l[a] = Sgn.dg l[y] → l[a] = l[y]) ∧ Hid (Below wo.heap.size wo wr)) (fun i _ => a - (intOf i).toNat)
          case atStart => exact ⟨0, by omega, rfl, Lib.hid fun y _ h => by omega, HB⟩
          case round =>
            obtain ⟨b, hb, rfl, HQ, HBb⟩ := hrel
            by_cases hltb : b < a
            · have hltb' : (b : Int) < a := by omega
              have hbl : b < l.length := by omega
              have hbk' : (b : Int) < k := by omega
              have hsl : (sumsV l).length = l.length := by simp [sumsV]
              obtain ⟨sb, so, rfl, hsb, hsc⟩ := strs_at (HSm.out.below HBb.out) (k := a) (by rw [hsl]; exact hal)
              obtain ⟨tb, to, rfl, htb, htc⟩ := strs_at ((HS.out.below HBo.out).below HBb.out) (k := a) hal
              obtain ⟨s1, Hs1⟩ : ∃ s, Hid (s = Sgn.dg l[a]) := ⟨_, Lib.hid rfl⟩
              obtain ⟨s2, Hs2⟩ : ∃ s, Hid (s = Sgn.dg l[b]) := ⟨_, Lib.hid rfl⟩
              obtain ⟨t1, Ht1⟩ : ∃ s, Hid (s = l[a]) := ⟨_, Lib.hid rfl⟩
              obtain ⟨t2, Ht2⟩ : ∃ s, Hid (s = l[b]) := ⟨_, Lib.hid rfl⟩
              have e1 : ∀ X : Grown wr, X.w.cell? ⟨sb, so + a, none⟩ = some (.string s1) := fun X => by rw [X.cell hsb, hsc a (by rw [hsl]; exact hal), Hs1.out]; simp [sumsV]
              have e2 : ∀ X : Grown wr, X.w.cell? ⟨sb, so + b, none⟩ = some (.string s2) := fun X => by rw [X.cell hsb, hsc b (by rw [hsl]; exact hbl), Hs2.out]; simp [sumsV]
              have e3 : ∀ X : Grown wr, X.w.cell? ⟨tb, to + a, none⟩ = some (.string t1) := fun X => by rw [X.cell htb, htc a hal, Ht1.out]
              have e4 : ∀ X : Grown wr, X.w.cell? ⟨tb, to + b, none⟩ = some (.string t2) := fun X => by rw [X.cell htb, htc b hbl, Ht2.out]
              have eqb : ∀ x y : ByteArray, (x.toList == y.toList) = decide (x = y) := fun x y => by
                by_cases h : x = y
                · rw [decide_eq_true h, h]; exact beq_self_eq_true _
                · rw [decide_eq_false h]; exact (Lib.bytes_beq_false_iff _ _).2 h
              by_cases hs : s1 = s2
              · by_cases ht : t1 = t2
                · have b1 : (s1.toList == s2.toList) = true := by rw [eqb, decide_eq_true hs]
                  have b2 : (t1.toList == t2.toList) = true := by rw [eqb, decide_eq_true ht]
                  have HQ2 : Hid (∀ y, (hy : y < l.length) → y < b + 1 → Sgn.dg l[a] = Sgn.dg l[y] → l[a] = l[y]) := Lib.hid fun y hy h1 h2 => by
                    by_cases e : y = b
                    · subst e; rw [← Ht1.out, ← Ht2.out]; exact ht
                    · exact HQ.out y hy (by omega) h2
                  clear hs ht eqb hsc htc hsl
                  go_wp2_with fail
                  refine wp_region_grown (by kernel_rfl) (by kernel_rfl) ?_
                  repeat (go_big_quiet_step (fail))
                  refine wpQuiet_nil ?_
                  rintro _ ⟨X, rfl⟩
                  have HBX := Lib.hid (below_step HBb.out X.below)
                  clear e1 e2 e3 e4
                  generalize X.w = W9 at HBX ⊢
                  go_wp2_with fail
                  go_roundw
                  case rel => exact ⟨b + 1, by omega, by go_num, HQ2, HBX⟩
                  case measure => simp [intOf]; omega
                · have b1 : (s1.toList == s2.toList) = true := by rw [eqb, decide_eq_true hs]
                  have b2 : (t1.toList == t2.toList) = false := by rw [eqb, decide_eq_false ht]
                  clear hs ht eqb hsc htc hsl
                  go_wp2_with fail
                  refine wp_region_grown (by kernel_rfl) (by kernel_rfl) ?_
                  repeat (go_big_quiet_step (fail))
                  refine wpQuiet_nil ?_
                  rintro _ ⟨X, rfl⟩
                  have HBX := Lib.hid (HBo.out.trans ((below_step HBb.out X.below).mono HBo.out.size))
                  clear e1 e2 e3 e4
                  generalize X.w = W9 at HBX ⊢
                  go_wp2_with fail
                  go_ret
                  exact ⟨true, rfl, fun _ => rfl, HBX.out⟩
              · have b1 : (s1.toList == s2.toList) = false := by rw [eqb, decide_eq_false hs]
                have HQ2 : Hid (∀ y, (hy : y < l.length) → y < b + 1 → Sgn.dg l[a] = Sgn.dg l[y] → l[a] = l[y]) := Lib.hid fun y hy h1 h2 => by
                  by_cases e : y = b
                  · subst e; rw [← Hs1.out, ← Hs2.out] at h2; exact absurd h2 hs
                  · exact HQ.out y hy (by omega) h2
                clear hs eqb hsc htc hsl
                go_wp2_with fail
                refine wp_region_grown (by kernel_rfl) (by kernel_rfl) ?_
                repeat (go_big_quiet_step (fail))
                refine wpQuiet_nil ?_
                rintro _ ⟨X, rfl⟩
                have HBX := Lib.hid (below_step HBb.out X.below)
                clear e1 e2 e3 e4
                generalize X.w = W9 at HBX ⊢
                go_wp2_with fail
                go_roundw
                case rel => exact ⟨b + 1, by omega, by go_num, HQ2, HBX⟩
                case measure => simp [intOf]; omega
            · obtain rfl : b = a := by omega
              have HP2 : Hid (∀ x y, (hx : x < l.length) → (hy : y < l.length) → y < x → x < b + 1 → Sgn.dg l[x] = Sgn.dg l[y] → l[x] = l[y]) := Lib.hid fun x y hx hy h1 h2 h3 => by
                by_cases e : x = b
                · subst e; exact HQ.out y hy h1 h3
                · exact HP.out x y hx hy h1 (by omega) h3
              go_wp2_with fail
              go_roundw
              case rel => exact ⟨b + 1, by omega, by go_num, HP2, HBb⟩
              case measure => simp [intOf]; omega
        · obtain rfl : a = k := by omega
          have HN : Hid (¬ Coll l) := Lib.hid (no_pair fun x y hx hy h1 h2 => HP.out x y hx hy h1 (by rw [Hn.out]; exact hx) h2)
          have HBX := Lib.hid (HBo.out.trans (HB.out.mono HBo.out.size))
          go_wp2_with fail
          go_ret
          exact ⟨false, rfl, fun h => absurd h HN.out, HBX.out⟩

def chainedV (s : ByteArray) (n : Nat) : List ByteArray := (List.range (n + 1)).map fun j => Sgn.chainV j s
theorem chainedV_succ (s : ByteArray) (n : Nat) : chainedV s (n + 1) = chainedV s n ++ [Sgn.chainV (n + 1) s] := by
  unfold chainedV
  rw [List.range_succ, List.map_append]
  rfl
theorem chainedV_len (s : ByteArray) (n : Nat) : (chainedV s n).length = n + 1 := by simp [chainedV]

end Go.Proofs.YtfnbdjjobndgfaaDoor

/- The walks of the reference's chained, node and Made. -/
namespace Go.Proofs.YtfnbdjjobndgfaaDoor
open Go.RowKit

section
variable {W w w' : World} {u v x u' v' x' : Value} {m n p k : Nat} {xs ys zs ls : List ByteArray}
theorem strC_append (xs ys : List ByteArray) : strC (xs ++ ys) = strC xs ++ strC ys := by simp [strC]
theorem strC_one (l : List ByteArray) : ∀ u ∈ strC l, u.oneCell' = true := by
  intro u hu
  obtain ⟨s, _, rfl⟩ := List.mem_map.1 hu
  rfl
/-- Three lists of texts of the call's own, apart. -/
structure R3 (W w : World) (u v x : Value) (m n p : Nat) (xs ys zs : List ByteArray) : Prop where
  below : Below W.heap.size W w
  r1 : w.ownsRow W.heap.size 9 1 u m (strC xs)
  r2 : w.ownsRow W.heap.size 9 1 v n (strC ys)
  r3 : w.ownsRow W.heap.size 9 1 x p (strC zs)
  a12 : Apart u v
  a13 : Apart u x
  a23 : Apart v x
theorem R3.grow (h : R3 W w u v x m n p xs ys zs) (hb : Below w.heap.size w w') : R3 W w' u v x m n p xs ys zs :=
  ⟨below_step h.below hb, owns_grown h.r1 hb, owns_grown h.r2 hb, owns_grown h.r3 hb, h.a12, h.a13, h.a23⟩
theorem R3.alloc (h : R3 W w u v x m n p xs ys zs) (o : Obj) : R3 W (w.alloc o) u v x m n p xs ys zs := h.grow ((Below.refl _ _).alloc (Nat.le_refl _) _)
theorem R3.push1 (h : R3 W w u v x m n p xs ys zs) (ho : w'.ownsRow W.heap.size 9 1 u' (m + k) (strC xs ++ strC ls)) (hg : w.grownBy w' u.ownBlock) (ha : u'.ownBlock = u.ownBlock ∨ ∀ g, u'.ownBlock = some g → w.heap.size ≤ g) :
    R3 W w' u' v x (m + k) n p (xs ++ ls) ys zs :=
  ⟨h.below.grown hg h.below.size (fun j e => (h.r1.lt j e).1), by rw [strC_append]; exact ho, h.a12.kept h.r2 hg, h.a13.kept h.r3 hg, h.a12.step h.r2 ha, h.a13.step h.r3 ha, h.a23⟩
theorem R3.turn (h : R3 W w u v x m n p xs ys zs) : R3 W w v x u n p m ys zs xs := ⟨h.below, h.r2, h.r3, h.r1, h.a23, h.a12.symm, h.a13.symm⟩
theorem apart_nil (v : Value) (n c : Nat) : Apart v (.slice none n c) := fun _ _ h => by simp [Value.ownBlock] at h
/-- The third list is left, and a new one begun. -/
theorem R3.fresh (h : R3 W w u v x m n p xs ys zs) : R3 W w u v (.slice none 0 0) m n 0 xs ys [] := ⟨h.below, h.r1, h.r2, World.ownsRow_nil _ _ _ _, h.a12, apart_nil _ _ _, apart_nil _ _ _⟩
theorem r3_none (W : World) : R3 W W (.slice none 0 0) (.slice none 0 0) (.slice none 0 0) 0 0 0 [] [] [] := ⟨Below.refl _ _, World.ownsRow_nil _ _ _ _, World.ownsRow_nil _ _ _ _, World.ownsRow_nil _ _ _ _, apart_nil _ _ _, apart_nil _ _ _, apart_nil _ _ _⟩
end
theorem new_row (w : World) (s : ByteArray) (base : Nat) (hb : base ≤ w.heap.size) : (w.alloc (.cells #[.string s] 9)).ownsRow base 9 1 (.slice (some ⟨w.heap.size, 0, none⟩) 1 1) 1 (strC [s]) :=
  ⟨by simp [strC], Or.inr ⟨w.heap.size, 1, _, rfl, hb, heap_alloc_new w _, by omega, by unfold maxLen; omega, rfl, rfl⟩⟩
theorem row_cells {w : World} {base g c : Nat} {l : List ByteArray} (h : w.ownsRow base 9 1 (.slice (some ⟨g, 0, none⟩) l.length c) l.length (strC l)) : ∀ (i : Nat) (u : Value), (strC l)[i]? = some u → w.cell? ((⟨g, 0, none⟩ : Addr).add i) = some u := by
  intro i u hu
  have hi : i < l.length := by
    have := (List.getElem?_eq_some_iff.1 hu).1
    simpa [strC] using this
  have e : (⟨g, 0, none⟩ : Addr).add i = ⟨g, i, none⟩ := by unfold Addr.add; split <;> simp_all
  rw [e, h.cellAt i (by omega)]
  exact hu

set_option maxHeartbeats 4000000 in
theorem refChained_any (s : ByteArray) (hs : s.size ≤ 100000) (n : Nat) (hn : n ≤ 30) (w : World) :
    Calls Tryd.prog 46 #[.string s, .int .i64 n] w fun e w' => ∃ g c, e = .returned (.slice (some ⟨g, 0, none⟩) (n + 1) c) ∧ w'.ownsRow w.heap.size 9 1 (.slice (some ⟨g, 0, none⟩) (n + 1) c) (n + 1) (strC (chainedV s n)) ∧ Below w.heap.size w w' := by
  obtain ⟨i1, hi1, hy0, hy1, hy2⟩ := info_parts info_str
  have HSz : Hid (∀ k, (Sgn.chainV k s).size ≤ 100000) := Lib.hid fun k => by
    cases k with
    | zero => exact hs
    | succ k => show (Sgn.dg _).size ≤ _; rw [Sgn.dg_size]; decide
  have HW0 : Hid (Below w.heap.size w (w.alloc (.cells #[.string s] 9)) ∧ (w.alloc (.cells #[.string s] 9)).ownsRow w.heap.size 9 1 (.slice (some ⟨w.heap.size, 0, none⟩) 1 1) 1 (strC (chainedV s 0))) := Lib.hid ⟨(Below.refl _ _).alloc (Nat.le_refl _) _, new_row w s _ (Nat.le_refl _)⟩
  go_enter Tryd.func46, Tryd.ntmps46
  go_wp2
  go_loopw [0, 5, 6] (fun t o i wr => ∃ k : Nat, k ≤ n ∧ i = .int .i64 k ∧ ∃ x, t = .string x ∧ Hid (x = Sgn.chainV k s) ∧ ∃ g c, o = .slice (some ⟨g, 0, none⟩) (k + 1) c ∧ Hid (Below w.heap.size w wr ∧ wr.ownsRow w.heap.size 9 1 (.slice (some ⟨g, 0, none⟩) (k + 1) c) (k + 1) (strC (chainedV s k)))) (fun _ _ i _ => n - (intOf i).toNat)
  case atStart => exact ⟨0, by omega, rfl, s, rfl, Lib.hid rfl, w.heap.size, 1, rfl, HW0⟩
  case round =>
    obtain ⟨k, hk, rfl, x, rfl, HX, g, c, rfl, HE⟩ := hrel
    by_cases hlt : k < n
    · have hlt' : (k : Int) < n := by omega
      have HC := Lib.hid (refSum_any x (by rw [HX.out]; have := HSz.out k; omega) wr)
      obtain ⟨y, Hy⟩ : ∃ y, Hid (y = digestOf x.data.toList) := ⟨_, Lib.hid rfl⟩
      rw [← Hy.out] at HC
      have HYc : Hid (y = Sgn.chainV (k + 1) s) := Lib.hid (by rw [Hy.out, HX.out]; rfl)
      have HNw := Lib.hid (newCell wr y)
      go_wp2_with fail
      refine HC.out.mono ?_
      rintro e _ ⟨rfl, rfl⟩
      go_wp2_with (at_builtin; go_loud (refine wpList_append_own _ rfl (.tmp 16) (.tmp 18) 22 rfl w.heap.size 9 i1 (.string ⟨#[]⟩) 1 16 Tryd.underlying22 hi1 hy0 hy1 hy2 rfl (by decide) _ _ _ rfl (HE.out.2.alloc _) ⟨wr.heap.size, 0, none⟩ 1 1 [.string y] rfl rfl HNw.out (by simp [Value.oneCell']) (by unfold maxLen; omega) (by omega) (by have := HE.out.1.size; rw [size_alloc]; omega) ?_); intro v' w10 hown hgrow _; obtain ⟨g', cap', rfl⟩ := owns_succ' hown; have HW10 := Lib.hid hown; have HG10 := Lib.hid hgrow; clear hown hgrow)
      go_roundw
      case rel =>
        refine ⟨k + 1, by omega, by go_num, y, rfl, HYc, g', cap', rfl, Lib.hid ⟨?_, ?_⟩⟩
        · exact (HE.out.1.alloc HE.out.1.size _).grown HG10.out (by have := HE.out.1.size; rw [size_alloc]; omega) (fun j e => (HE.out.2.lt j e).1)
        · rw [chainedV_succ, strC_snoc, ← HYc.out]
          exact HW10.out
      case measure => simp [intOf]; omega
    · obtain rfl : n = k := by omega
      go_wp2
      go_ret
      exact ⟨g, c, rfl, HE.out.2, HE.out.1⟩

set_option maxHeartbeats 1000000 in
theorem refNode_any (a b : ByteArray) (ha : a.size ≤ 300) (hb : b.size ≤ 300) (w : World) :
    Calls Tryd.prog 47 #[.string a, .string b] w fun e w' => e = .returned (.string (Sgn.nodeTx a b)) ∧ Below w.heap.size w w' := by
  go_enter Tryd.func47, Tryd.ntmps47
  go_wp2_with fail
  have hw : Below w.heap.size w (w.alloc (.cells #[.string Sgn.nodeT, .string a, .string b] 9)) := (Below.refl _ _).alloc (Nat.le_refl _) _
  have hL := refJoined_any (some ⟨w.heap.size, 0, none⟩) [Sgn.nodeT, a, b] 3 (w.alloc (.cells #[.string Sgn.nodeT, .string a, .string b] 9)) (strs3 (by rw [cell_alloc, if_pos rfl] <;> rfl) (by rw [cell_alloc, if_pos rfl] <;> rfl) (by rw [cell_alloc, if_pos rfl] <;> rfl)) (few3 (by decide) ha hb)
  refine hL.mono ?_
  rintro e w3 ⟨rfl, hb3⟩
  have HB3 := Lib.hid (hw.trans (hb3.mono hw.size))
  clear hb3 hL hw
  go_wp2
  go_ret
  exact ⟨rfl, HB3.out⟩

def keyT (sec : ByteArray) (i n k : Nat) : List ByteArray := (List.range k).flatMap fun q => Sgn.startT sec i q :: chainedV (Sgn.startV sec i q) n
theorem keyT_succ (sec : ByteArray) (i n k : Nat) : keyT sec i n (k + 1) = (keyT sec i n k ++ [Sgn.startT sec i k]) ++ chainedV (Sgn.startV sec i k) n := by
  unfold keyT
  rw [List.range_succ, List.flatMap_append]
  simp
def keysT (sec : ByteArray) (n i : Nat) : List ByteArray := (List.range i).flatMap fun q => keyT sec q n 18 ++ [Sgn.textOf (Sgn.endsV sec q)]
theorem keysT_succ (sec : ByteArray) (n i : Nat) : keysT sec n (i + 1) = (keysT sec n i ++ keyT sec i n 18) ++ [Sgn.textOf (Sgn.endsV sec i)] := by
  unfold keysT
  rw [List.range_succ, List.flatMap_append]
  simp
def nodesT (l : List ByteArray) (q : Nat) : List ByteArray := (List.range q).map fun i => Sgn.nodeTx (Sgn.at_ l (2 * i)) (Sgn.at_ l (2 * i + 1))
theorem nodesT_succ (l : List ByteArray) (q : Nat) : nodesT l (q + 1) = nodesT l q ++ [Sgn.nodeTx (Sgn.at_ l (2 * q)) (Sgn.at_ l (2 * q + 1))] := by
  unfold nodesT
  rw [List.range_succ, List.map_append]
  rfl
def upT (sec : ByteArray) (h t : Nat) : List ByteArray := (List.range t).flatMap fun j => nodesT (Sgn.level sec h j) (2 ^ (h - (j + 1)))
theorem upT_succ (sec : ByteArray) (h t : Nat) : upT sec h (t + 1) = upT sec h t ++ nodesT (Sgn.level sec h t) (2 ^ (h - (t + 1))) := by
  unfold upT
  rw [List.range_succ, List.flatMap_append]
  simp
/-- What is digested for a public key. -/
def madeV (sec : ByteArray) (h n : Nat) : List ByteArray := keysT sec n (2 ^ h) ++ upT sec h h
theorem textOf_size (ss : List ByteArray) (hf : fewB ss 300 = true) : (Sgn.textOf ss).size ≤ 9630 := by
  have := joinText_take_le' ss hf ss.length
  rw [List.take_of_length_le (by simp [bytesOf])] at this
  show (joinText (bytesOf ss)).toArray.size ≤ 9630
  rw [List.size_toArray]
  exact this

end Go.Proofs.YtfnbdjjobndgfaaDoor

/- The walk of the reference's Made. -/
namespace Go.Proofs.YtfnbdjjobndgfaaDoor
open Go.RowKit

/-- What a call for the texts of a public key leaves. -/
def MadePost (sec : ByteArray) (h n : Nat) (w : World) (e : Ending) (w' : World) : Prop :=
  ∃ uo uc, e = .returned (.slice uo (madeV sec h n).length uc) ∧ w'.ownsRow w.heap.size 9 1 (.slice uo (madeV sec h n).length uc) (madeV sec h n).length (strC (madeV sec h n)) ∧ (madeV sec h n).length ≤ 100000 ∧ Below w.heap.size w w'

theorem lies_apart {v : Value} {g H a b : Nat} (h : v.ownBlock = some g ∨ g = H) : (Value.slice (some ⟨g, 0, none⟩) a b).ownBlock = v.ownBlock ∨ ∀ k, (Value.slice (some ⟨g, 0, none⟩) a b).ownBlock = some k → H ≤ k := by
  rcases h with h | rfl
  · exact Or.inl (by rw [h]; rfl)
  · refine Or.inr fun k hk => ?_
    have : g = k := by simpa [Value.ownBlock] using hk
    omega
/-- The second list is left for the third. -/
theorem R3.next {W w : World} {u v x : Value} {m n p : Nat} {xs ys zs : List ByteArray} (h : R3 W w u v x m n p xs ys zs) : R3 W w u x (.slice none 0 0) m p 0 xs zs [] := ⟨h.below, h.r1, h.r3, World.ownsRow_nil _ _ _ _, h.a13, apart_nil _ _ _, apart_nil _ _ _⟩
theorem slice_of {w : World} {base n : Nat} {v : Value} {xs : List ByteArray} (h : w.ownsRow base 9 1 v n (strC xs)) : ∃ ao c, v = .slice ao n c := by
  rcases h.2 with ⟨rfl, rfl⟩ | ⟨g, cap, cur, rfl, _⟩
  · exact ⟨none, 0, rfl⟩
  · exact ⟨_, _, rfl⟩

set_option maxRecDepth 100000 in
set_option maxHeartbeats 16000000 in
theorem refMade_any (sec : ByteArray) (hs : sec.size ≤ 300) (h n : Nat) (hh : h ≤ 3) (hn : n ≤ 30) (h15 : 15 ≤ n) (W : World) :
    Calls Tryd.prog 23 #[.string sec, .int .i64 h, .int .i64 n] W (MadePost sec h n W) := by
  obtain ⟨i1, hi1, hy0, hy1, hy2⟩ := info_parts info_str
  obtain ⟨N, HN⟩ : ∃ N, Hid (N = 2 ^ h) := ⟨_, Lib.hid rfl⟩
  have hNb : N ≤ 8 := by rw [HN.out]; exact (Nat.pow_le_pow_right (by decide) hh : 2 ^ h ≤ 2 ^ 3)
  have HPw : Hid (∀ X, Calls Tryd.prog 33 #[.int .i64 h] X fun e w' => e = .returned (.int .i64 (N : Int)) ∧ X = w') := Lib.hid fun X => by rw [HN.out]; exact refPower_any h (by omega) X
  go_enter Tryd.func23, Tryd.ntmps23
  go_wp2
  go_loopw [7, 8, 9] (fun o l i wr => ∃ a : Nat, a ≤ N ∧ i = .int .i64 a ∧ ∃ uo m uc lo lc, o = .slice uo m uc ∧ l = .slice lo a lc ∧ m ≤ 1000 * a ∧ Hid (R3 W wr (.slice uo m uc) (.slice lo a lc) (.slice none 0 0) m a 0 (keysT sec n a) (keysUp sec a) [])) (fun _ _ i _ => N - (intOf i).toNat)
  case atStart => exact ⟨0, by omega, rfl, none, 0, 0, none, 0, rfl, rfl, by omega, Lib.hid (r3_none _)⟩
  case round =>
    obtain ⟨a, ha, rfl, uo, m, uc, lo, lc, rfl, rfl, hm, HR⟩ := hrel
    obtain ⟨wo, rfl⟩ : ∃ y, y = wr := ⟨_, rfl⟩
    by_cases hlt : a < N
    · have hlt' : (a : Int) < N := by omega
      go_wp2_with fail
      refine (HPw.out _).mono ?_
      rintro e _ ⟨rfl, rfl⟩
      go_wp2_with fail
      go_loopw [7, 10, 11] (fun o l i wr => ∃ k : Nat, k ≤ 18 ∧ i = .int .i64 k ∧ ∃ vo q vc eo ec, o = .slice vo q vc ∧ l = .slice eo k ec ∧ q ≤ 1000 * a + 40 * k ∧ Hid (R3 W wr (.slice vo q vc) (.slice lo a lc) (.slice eo k ec) q a k (keysT sec n a ++ keyT sec a n k) (keysUp sec a) (endsUp sec a k))) (fun _ _ i _ => 18 - (intOf i).toNat)
      case atStart => exact ⟨0, by omega, rfl, uo, m, uc, none, 0, rfl, rfl, by omega, Lib.hid (by rw [show keysT sec n a ++ keyT sec a n 0 = keysT sec n a by simp [keyT]]; exact HR.out)⟩
      case round =>
        obtain ⟨k, hk, rfl, vo, q, vc, eo, ec, rfl, rfl, hq, HE⟩ := hrel
        by_cases hltk : k < 18
        · have hltk' : (k : Int) < 18 := by omega
          have HD1 := Lib.hid fun (X : World) => refDecimal_any a (by omega) X
          have HD2 := Lib.hid fun (X : World) => refDecimal_any k (by omega) X
          obtain ⟨st, Hst⟩ : ∃ s, Hid (s = Sgn.startT sec a k) := ⟨_, Lib.hid rfl⟩
          have HJn : Hid (∀ X : World, Calls Tryd.prog 44 #[.slice (some ⟨X.heap.size, 0, none⟩) 3 3] (X.alloc (.cells #[.string sec, .string (Sgn.decT a), .string (Sgn.decT k)] 9)) fun e w' => e = .returned (.string st) ∧ Below X.heap.size X w') := Lib.hid fun X => by
            have hw : Below X.heap.size X (X.alloc (.cells #[.string sec, .string (Sgn.decT a), .string (Sgn.decT k)] 9)) := (Below.refl _ _).alloc (Nat.le_refl _) _
            rw [Hst.out]
            exact (refJoined_any (some ⟨X.heap.size, 0, none⟩) [sec, Sgn.decT a, Sgn.decT k] 3 (X.alloc (.cells #[.string sec, .string (Sgn.decT a), .string (Sgn.decT k)] 9)) (strs3 (by rw [cell_alloc, if_pos rfl] <;> rfl) (by rw [cell_alloc, if_pos rfl] <;> rfl) (by rw [cell_alloc, if_pos rfl] <;> rfl)) (few3 hs (by have := decT_size a (by omega); omega) (by have := decT_size k (by omega); omega))).mono fun e w' ⟨he, hb⟩ => ⟨he, hw.trans (hb.mono hw.size)⟩
          have hst : st.size ≤ 9630 := by
            rw [Hst.out]
            exact textOf_size _ (few3 hs (by have := decT_size a (by omega); omega) (by have := decT_size k (by omega); omega))
          obtain ⟨sv, Hsv⟩ : ∃ s, Hid (s = Sgn.startV sec a k) := ⟨_, Lib.hid rfl⟩
          have HSm : Hid (∀ X, Calls Tryd.prog 25 #[.string st] X fun e w' => e = .returned (.string sv) ∧ X = w') := Lib.hid fun X => by
            have := refSum_any st (by omega) X
            rw [Hsv.out]
            rw [show digestOf st.data.toList = Sgn.startV sec a k by rw [Hst.out]; rfl] at this
            exact this
          have HCh := Lib.hid fun (X : World) => refChained_any sv (by rw [Hsv.out, startV_size]; decide) n hn X
          go_wp2_with fail
          refine (HD1.out _).mono ?_
          rintro e _ ⟨rfl, rfl⟩
          go_wp2_with fail
          refine (HD2.out _).mono ?_
          rintro e _ ⟨rfl, rfl⟩
          go_wp2_with fail
          refine (HJn.out wr).mono ?_
          rintro e w2 ⟨rfl, hb⟩
          have HE2 := Lib.hid (HE.out.grow hb)
          have HNw := Lib.hid (newCell w2 st)
          clear hb
          go_wp2_with (at_builtin; go_loud (refine wpList_append_apart rfl (.tmp 34) (.tmp 36) 22 rfl W.heap.size 9 i1 (.string ⟨#[]⟩) 1 16 Tryd.underlying22 hi1 hy0 hy1 hy2 rfl (by decide) _ _ _ rfl (HE2.out.alloc _).r1 ⟨w2.heap.size, 0, none⟩ 1 1 [.string st] rfl rfl HNw.out (by simp [Value.oneCell']) (by unfold maxLen; omega) (by omega) (by have := HE2.out.below.size; rw [size_alloc]; omega) ?_); intro v' w10 hown hgrow hap; have HE3 := Lib.hid ((HE2.out.alloc _).push1 (ls := [st]) hown hgrow hap); obtain ⟨xo, xc, rfl⟩ := slice_of HE3.out.r1; clear hown hgrow hap)
          refine (HSm.out _).mono ?_
          rintro e _ ⟨rfl, rfl⟩
          go_wp2_with fail
          refine (HCh.out _).mono ?_
          rintro e w4 ⟨g, c, rfl, hrow, hb⟩
          have HE4 := Lib.hid (HE3.out.grow hb)
          have HCr := Lib.hid hrow
          have hln : (chainedV sv n).length = n + 1 := chainedV_len _ _
          have HNc : Hid (∀ (i : Nat) (u : Value), (strC (chainedV sv n))[i]? = some u → w4.cell? ((⟨g, 0, none⟩ : Addr).add i) = some u) := Lib.hid (by
            have hrow2 := hrow
            rw [← hln] at hrow2
            exact row_cells hrow2)
          obtain ⟨cv, Hcv⟩ : ∃ s, Hid (s = Sgn.chainV 15 sv) := ⟨_, Lib.hid rfl⟩
          have HK15 : Hid (∀ (X : World) b, X.ownsRow b 9 1 (.slice (some ⟨g, 0, none⟩) (n + 1) c) (n + 1) (strC (chainedV sv n)) → X.cell? ⟨g, 15, none⟩ = some (.string cv)) := Lib.hid fun X b hX => by
            rw [hX.cellAt 15 (by omega), Hcv.out]
            unfold strC chainedV
            rw [List.getElem?_map, List.getElem?_map, List.getElem?_range (by omega)]
            rfl
          have hn15 : (15 : Int) < (n : Int) + 1 := by omega
          have HApc : Hid (Apart (.slice xo (q + 1) xc) (.slice (some ⟨g, 0, none⟩) (n + 1) c)) := Lib.hid fun b h1 h2 => by
            have := (HE3.out.r1.lt b h1).2
            have := (hrow.lt b h2).1
            omega
          clear hrow hb hln
          go_wp2_with (first
            | (at_builtin; refine wpList_append_apart rfl (.tmp 42) (.tmp 43) 22 rfl W.heap.size 9 i1 (.string ⟨#[]⟩) 1 16 Tryd.underlying22 hi1 hy0 hy1 hy2 rfl (by decide) _ _ _ rfl HE4.out.r1 ⟨g, 0, none⟩ (n + 1) c (strC (chainedV sv n)) rfl (by simp [strC, chainedV]) HNc.out (strC_one _) (by unfold maxLen; omega) (by omega) HE4.out.below.size ?_; intro v' w5 hown hgrow hap; have HE5 := Lib.hid (HE4.out.push1 (ls := chainedV sv n) hown hgrow hap); have HCr5 := Lib.hid (HApc.out.kept HCr.out hgrow); have k15 := HK15.out _ _ HCr5.out; obtain ⟨yo, yc, rfl⟩ := slice_of HE5.out.r1; have HNe := Lib.hid (newCell w5 cv); have HE6 := Lib.hid HE5.out.turn.turn; clear hown hgrow hap)
            | (at_builtin; refine wpList_append_apart rfl (.tmp 45) (.tmp 49) 22 rfl W.heap.size 9 i1 (.string ⟨#[]⟩) 1 16 Tryd.underlying22 hi1 hy0 hy1 hy2 rfl (by decide) _ _ _ rfl (HE6.out.alloc _).r1 ⟨w5.heap.size, 0, none⟩ 1 1 [.string cv] rfl rfl HNe.out (by simp [Value.oneCell']) (by unfold maxLen; omega) (by omega) (by have := HE6.out.below.size; rw [size_alloc]; omega) ?_; intro v' w6 hown hgrow hap; have HE7 := Lib.hid ((HE6.out.alloc _).push1 (ls := [cv]) hown hgrow hap).turn; obtain ⟨zo, zc, rfl⟩ := slice_of HE7.out.r3; clear hown hgrow hap))
          go_roundw
          case rel =>
            refine ⟨k + 1, by omega, by go_num, yo, q + 1 + (n + 1), yc, zo, zc, rfl, rfl, by omega, Lib.hid ?_⟩
            have e1 : keysT sec n a ++ keyT sec a n (k + 1) = keysT sec n a ++ keyT sec a n k ++ [st] ++ chainedV sv n := by
              rw [keyT_succ, Hst.out, Hsv.out]; simp only [List.append_assoc]
            have e2 : endsUp sec a (k + 1) = endsUp sec a k ++ [cv] := by rw [endsUp_succ, Hcv.out, Hsv.out]
            rw [e1, e2]
            exact HE7.out
          case measure => simp [intOf]; omega
        · obtain rfl : k = 18 := by omega
          have hsz : ∀ s ∈ endsUp sec a 18, s.size ≤ 300 := fun s hs => by
            obtain ⟨q, _, rfl⟩ := List.mem_map.1 hs
            rw [chain15_size _ _ (startV_size _ _ _)]; decide
          have hfw := fewE hsz (by simp [endsUp])
          obtain ⟨kt, Hkt⟩ : ∃ s, Hid (s = Sgn.textOf (Sgn.endsV sec a)) := ⟨_, Lib.hid rfl⟩
          have hkt : kt.size ≤ 9630 := by rw [Hkt.out]; exact textOf_size _ hfw
          have hJ := refJoined_any eo (endsUp sec a 18) ec wr (strs_of_row HE.out.r3 (by simp [endsUp])) hfw
          rw [show (endsUp sec a 18).length = 18 by simp [endsUp], show (⟨(joinText (bytesOf (endsUp sec a 18))).toArray⟩ : ByteArray) = kt by rw [Hkt.out]; rfl] at hJ
          have HJ := Lib.hid hJ
          obtain ⟨kv, Hkv⟩ : ∃ s, Hid (s = Sgn.keyV sec a) := ⟨_, Lib.hid rfl⟩
          have HSm : Hid (∀ X, Calls Tryd.prog 25 #[.string kt] X fun e w' => e = .returned (.string kv) ∧ X = w') := Lib.hid fun X => by
            have := refSum_any kt (by omega) X
            rw [Hkv.out]
            rw [show digestOf kt.data.toList = Sgn.keyV sec a by rw [Hkt.out]; rfl] at this
            exact this
          clear hsz hfw hJ
          go_wp2_with fail
          refine HJ.out.mono ?_
          rintro e w2 ⟨rfl, hb⟩
          have HE2 := Lib.hid (HE.out.grow hb)
          have HNw := Lib.hid (newCell w2 kt)
          clear hb
          go_wp2_with (at_builtin; go_loud (refine wpList_append_apart rfl (.tmp 53) (.tmp 55) 22 rfl W.heap.size 9 i1 (.string ⟨#[]⟩) 1 16 Tryd.underlying22 hi1 hy0 hy1 hy2 rfl (by decide) _ _ _ rfl (HE2.out.alloc _).r1 ⟨w2.heap.size, 0, none⟩ 1 1 [.string kt] rfl rfl HNw.out (by simp [Value.oneCell']) (by unfold maxLen; omega) (by omega) (by have := HE2.out.below.size; rw [size_alloc]; omega) ?_); intro v' w10 hown hgrow hap; have HE3 := Lib.hid ((HE2.out.alloc _).push1 (ls := [kt]) hown hgrow hap).turn; obtain ⟨xo, xc, rfl⟩ := slice_of HE3.out.r3; clear hown hgrow hap)
          refine (HSm.out _).mono ?_
          rintro e _ ⟨rfl, rfl⟩
          have HNk := Lib.hid (newCell w10 kv)
          go_wp2_with (at_builtin; go_loud (refine wpList_append_apart rfl (.tmp 57) (.tmp 60) 22 rfl W.heap.size 9 i1 (.string ⟨#[]⟩) 1 16 Tryd.underlying22 hi1 hy0 hy1 hy2 rfl (by decide) _ _ _ rfl (HE3.out.alloc _).r1 ⟨w10.heap.size, 0, none⟩ 1 1 [.string kv] rfl rfl HNk.out (by simp [Value.oneCell']) (by unfold maxLen; omega) (by omega) (by have := HE3.out.below.size; rw [size_alloc]; omega) ?_); intro v' w11 hown hgrow hap; have HE4 := Lib.hid ((HE3.out.alloc _).push1 (ls := [kv]) hown hgrow hap).turn.turn.fresh; obtain ⟨yo, yc, rfl⟩ := slice_of HE4.out.r2; clear hown hgrow hap)
          go_roundw
          case rel =>
            refine ⟨a + 1, by omega, by go_num, xo, q + 1, xc, yo, yc, rfl, rfl, by omega, Lib.hid ?_⟩
            rw [keysT_succ, keysUp_succ, ← Hkt.out, ← Hkv.out]
            exact HE4.out
          case measure => simp [intOf]; omega
    · obtain rfl : a = N := by omega
      have HR0 : Hid (∃ t, t ≤ h ∧ a = 2 ^ (h - t) ∧ R3 W wo (.slice uo m uc) (.slice lo a lc) (.slice none 0 0) m a 0 (keysT sec n a ++ upT sec h t) (Sgn.level sec h t) []) := Lib.hid ⟨0, Nat.zero_le _, HN.out, by
        rw [show keysT sec n a ++ upT sec h 0 = keysT sec n a by simp [upT], show Sgn.level sec h 0 = keysUp sec a by rw [HN.out]; rfl]
        exact HR.out⟩
      go_wp2_with fail
      refine (HPw.out _).mono ?_
      rintro e _ ⟨rfl, rfl⟩
      go_wp2_with fail
      go_loopw [7, 8] (fun o l wr => ∃ M vo q vc lo lc, o = .slice vo q vc ∧ l = .slice lo M lc ∧ M ≤ 8 ∧ q + M ≤ 8008 ∧ Hid (∃ t, t ≤ h ∧ M = 2 ^ (h - t) ∧ R3 W wr (.slice vo q vc) (.slice lo M lc) (.slice none 0 0) q M 0 (keysT sec n a ++ upT sec h t) (Sgn.level sec h t) [])) (fun _ l _ => match l with | .slice _ m _ => m | _ => 0)
      case atStart => exact ⟨a, uo, m, uc, lo, lc, rfl, rfl, hNb, by omega, HR0⟩
      case round =>
        obtain ⟨M, vo, q, vc, l2, lc2, rfl, rfl, hM8, hqM, HL⟩ := hrel
        obtain ⟨wp, rfl⟩ : ∃ y, y = wr := ⟨_, rfl⟩
        by_cases hlt : 1 < M
        · have hlt' : (1 : Int) < M := by omega
          obtain ⟨t, hth, hMt, hR⟩ := HL.out
          have hth2 : t < h := by
            rcases Nat.lt_or_ge t h with hh | hh
            · exact hh
            · rw [show h - t = 0 by omega] at hMt; omega
          obtain ⟨U, HU⟩ : ∃ x, Hid (x = 2 ^ (h - (t + 1))) := ⟨_, Lib.hid rfl⟩
          have HMU : Hid (M = 2 * U) := Lib.hid (by rw [hMt, HU.out, show h - t = (h - (t + 1)) + 1 by omega, Nat.pow_succ]; omega)
          have HML : Hid (M = (Sgn.level sec h t).length) := Lib.hid (by rw [hMt, Sgn.level_len sec h t hth])
          have HSz := Lib.hid (level_size sec h t)
          have HR2 := Lib.hid hR
          clear hR hMt HL HR HR0
          go_wp2_with fail
          go_loopw [7, 15, 16] (fun o x i wr => ∃ c r : Nat, Hid (c = 2 * r) ∧ c ≤ M ∧ i = .int .i64 c ∧ ∃ vo q2 vc eo ec, o = .slice vo q2 vc ∧ x = .slice eo r ec ∧ q2 ≤ q + 8 ∧ Hid (q2 = q + r) ∧ Hid (R3 W wr (.slice vo q2 vc) (.slice l2 M lc2) (.slice eo r ec) q2 M r (keysT sec n a ++ upT sec h t ++ nodesT (Sgn.level sec h t) r) (Sgn.level sec h t) (upTo sec h t r))) (fun _ _ i _ => M - (intOf i).toNat)
          case atStart => exact ⟨0, 0, Lib.hid rfl, by omega, rfl, vo, q, vc, none, 0, rfl, rfl, by omega, Lib.hid rfl, Lib.hid (by rw [show keysT sec n a ++ upT sec h t ++ nodesT (Sgn.level sec h t) 0 = keysT sec n a ++ upT sec h t by simp [nodesT]]; exact HR2.out)⟩
          case round =>
            obtain ⟨c, r, Hcr, hc, rfl, xo, q2, xc, eo, ec, rfl, rfl, hq2, HQ2, HE⟩ := hrel
            by_cases hltc : c < M
            · have hr8 : r ≤ 8 := by have := Hcr.out; omega
              have hc1 : c + 1 < M := by have := Hcr.out; have := HMU.out; omega
              have hltc' : (c : Int) < M := by omega
              have hk1' : ((c + 1 : Nat) : Int) < M := by omega
              have hk2' : (c : Int) + 1 < M := by omega
              have hk0' : (0 : Int) ≤ (c : Int) + 1 := by omega
              have hcl : c < (Sgn.level sec h t).length := by rw [← HML.out]; exact hltc
              have hcl1 : c + 1 < (Sgn.level sec h t).length := by rw [← HML.out]; exact hc1
              obtain ⟨bl, ol, rfl, hbl, -⟩ := strs_at (strs_of_row HE.out.r2 HML.out) (k := c) hcl
              obtain ⟨sa, Hsa⟩ : ∃ x, Hid (x = Sgn.at_ (Sgn.level sec h t) c) := ⟨_, Lib.hid rfl⟩
              obtain ⟨sb, Hsb⟩ : ∃ x, Hid (x = Sgn.at_ (Sgn.level sec h t) (c + 1)) := ⟨_, Lib.hid rfl⟩
              have HCl : Hid (∀ X : World, X.ownsRow W.heap.size 9 1 (.slice (some ⟨bl, ol, none⟩) M lc2) M (strC (Sgn.level sec h t)) → X.cell? ⟨bl, ol + c, none⟩ = some (.string sa) ∧ X.cell? ⟨bl, ol + (c + 1), none⟩ = some (.string sb)) := Lib.hid fun X hX => by
                obtain ⟨bl', ol', e, _, h3⟩ := strs_at (strs_of_row hX HML.out) (k := c) hcl
                simp only [Option.some.injEq, Addr.mk.injEq] at e
                obtain ⟨rfl, rfl, -⟩ := e
                exact ⟨by rw [h3 c hcl, Hsa.out, Sgn.at_get hcl], by rw [h3 (c + 1) hcl1, Hsb.out, Sgn.at_get hcl1]⟩
              have hza : sa.size ≤ 300 := by rw [Hsa.out, Sgn.at_get hcl, HSz.out _ (List.getElem_mem _)]; decide
              have hzb : sb.size ≤ 300 := by rw [Hsb.out, Sgn.at_get hcl1, HSz.out _ (List.getElem_mem _)]; decide
              have HNd := Lib.hid fun (X : World) => refNode_any sa sb hza hzb X
              obtain ⟨nt, Hnt⟩ : ∃ x, Hid (x = Sgn.nodeTx sa sb) := ⟨_, Lib.hid rfl⟩
              rw [← Hnt.out] at HNd
              have hnt : nt.size ≤ 9630 := by rw [Hnt.out]; exact textOf_size _ (few3 (by decide) hza hzb)
              obtain ⟨nv, Hnv⟩ : ∃ x, Hid (x = Sgn.nodeV sa sb) := ⟨_, Lib.hid rfl⟩
              have HSm : Hid (∀ X, Calls Tryd.prog 25 #[.string nt] X fun e w' => e = .returned (.string nv) ∧ X = w') := Lib.hid fun X => by
                have := refSum_any nt (by omega) X
                rw [Hnv.out]
                rw [show digestOf nt.data.toList = Sgn.nodeV sa sb by rw [Hnt.out]; rfl] at this
                exact this
              have d1 : ∀ X : Grown wr, X.w.cell? ⟨bl, ol + c, none⟩ = some (.string sa) := fun X => (HCl.out _ (owns_grown HE.out.r2 X.below)).1
              have d2 : ∀ X : Grown wr, X.w.cell? ⟨bl, ol + (c + 1), none⟩ = some (.string sb) := fun X => (HCl.out _ (owns_grown HE.out.r2 X.below)).2
              clear hza hzb hcl hcl1 hbl
              go_wp2_with fail
              refine (wpIn_wide (n := 1)).1 ?_
              refine wpIn_region_calm [0, 1, 2, 3, 4, 5, 6, 7, 8, 9] [10, 11, 12, 13] [12, 13] (fun w' => ∃ X : Grown wr, w' = X.w) (by kernel_rfl) (by kernel_rfl) rfl (by kernel_rfl) (by kernel_rfl) ⟨⟨wr.drew, (Below.refl _ _).drew⟩, rfl⟩ ?_
              simp only [List.filterMap_cons, List.filterMap_nil, List.getElem?_toArray, List.getElem?_cons_zero, List.getElem?_cons_succ]
              refine (show wpQuiet _ _ _ _ (_ :: _ :: _ :: _ :: _ :: _ :: _ :: _ :: _ :: _ :: []) _ from ?_)
              repeat (go_big_quiet_step (fail))
              refine wpQuiet_nil ?_
              refine wpTail_cons rfl rfl fun K hK => ?_
              go_simp
              refine ⟨trivial, ?_⟩
              refine (callsIn_wide.2 (HNd.out wr.drew)).mono ?_
              rintro e X1 ⟨rfl, hb⟩
              have HX1 : Hid (Below wr.heap.size wr X1) := Lib.hid ((Below.refl _ _).drew.trans hb)
              refine hK _ _ (fun _ => ⟨⟨X1, HX1.out⟩, rfl⟩) ?_
              clear hK K hb
              refine wpTail_cons rfl rfl fun K hK => ?_
              go_simp
              refine hK _ _ (fun _ => ⟨⟨X1.alloc (.cells #[.string nt] 9), HX1.out.alloc HX1.out.size _⟩, rfl⟩) ?_
              clear hK K
              have HE1 := Lib.hid (HE.out.grow HX1.out)
              have HNw := Lib.hid (newCell X1 nt)
              refine wpTail_cons rfl rfl fun K hK => ?_
              refine wpIn_append_lies _ (.tmp 72) (.tmp 83) 22 rfl W.heap.size 9 i1 (.string ⟨#[]⟩) 1 16 Tryd.underlying22 hi1 hy0 hy1 hy2 rfl (by decide) (.slice xo q2 xc) q2 (strC (keysT sec n a ++ upT sec h t ++ nodesT (Sgn.level sec h t) r)) (by simp [Act.eval]) (HE1.out.alloc _).r1 ⟨X1.heap.size, 0, none⟩ 1 1 [.string nt] (by simp [Act.eval]) rfl HNw.out (by simp [Value.oneCell']) (by decide) (by unfold maxLen; omega) (by omega) (by rw [size_alloc]; have := HE1.out.below.size; omega) ?_
              intro g1 cap1 w10 hown hgrow hat _
              refine hK _ _ (fun h => absurd h (by decide)) ?_
              clear hK K d1 d2
              have HE2 := Lib.hid ((HE1.out.alloc _).push1 (ls := [nt]) hown hgrow (lies_apart hat))
              clear hown hgrow hat
              refine wpTail_cons rfl rfl fun K hK => ?_
              go_simp
              refine hK _ _ (fun h => absurd h (by decide)) ?_
              clear hK K
              refine wpTail_calm ?_
              have d1 : ∀ X : Grown w10, X.w.cell? ⟨bl, ol + c, none⟩ = some (.string sa) := fun X => (HCl.out _ (owns_grown HE2.out.r2 X.below)).1
              have d2 : ∀ X : Grown w10, X.w.cell? ⟨bl, ol + (c + 1), none⟩ = some (.string sb) := fun X => (HCl.out _ (owns_grown HE2.out.r2 X.below)).2
              go_wp2_with fail
              refine (wpIn_wide (n := 1)).1 ?_
              refine wpIn_region_calm [0, 1, 2, 3, 4, 5, 6, 7, 8, 9] [10, 11, 12, 13, 14] [13, 14] (fun w' => ∃ X : Grown w10, w' = X.w) (by kernel_rfl) (by kernel_rfl) rfl (by kernel_rfl) (by kernel_rfl) ⟨⟨w10.drew, (Below.refl _ _).drew⟩, rfl⟩ ?_
              simp only [List.filterMap_cons, List.filterMap_nil, List.getElem?_toArray, List.getElem?_cons_zero, List.getElem?_cons_succ]
              refine (show wpQuiet _ _ _ _ (_ :: _ :: _ :: _ :: _ :: _ :: _ :: _ :: _ :: _ :: []) _ from ?_)
              repeat (go_big_quiet_step (fail))
              refine wpQuiet_nil ?_
              refine wpTail_cons rfl rfl fun K hK => ?_
              go_simp
              refine ⟨trivial, ?_⟩
              refine (callsIn_wide.2 (HNd.out w10.drew)).mono ?_
              rintro e X2 ⟨rfl, hb⟩
              have HX2 : Hid (Below w10.heap.size w10 X2) := Lib.hid ((Below.refl _ _).drew.trans hb)
              refine hK _ _ (fun _ => ⟨⟨X2, HX2.out⟩, rfl⟩) ?_
              clear hK K hb
              refine wpTail_cons rfl rfl fun K hK => ?_
              go_simp
              refine ⟨trivial, ?_⟩
              refine (callsIn_wide.2 (HSm.out X2)).mono ?_
              rintro e _ ⟨rfl, rfl⟩
              refine hK _ _ (fun _ => ⟨⟨X2, HX2.out⟩, rfl⟩) ?_
              clear hK K
              refine wpTail_cons rfl rfl fun K hK => ?_
              go_simp
              refine hK _ _ (fun _ => ⟨⟨X2.alloc (.cells #[.string nv] 9), HX2.out.alloc HX2.out.size _⟩, rfl⟩) ?_
              clear hK K
              have HE3 := Lib.hid (HE2.out.grow HX2.out).turn.turn
              have HNv := Lib.hid (newCell X2 nv)
              refine wpTail_cons rfl rfl fun K hK => ?_
              refine wpIn_append_lies _ (.tmp 85) (.tmp 97) 22 rfl W.heap.size 9 i1 (.string ⟨#[]⟩) 1 16 Tryd.underlying22 hi1 hy0 hy1 hy2 rfl (by decide) (.slice eo r ec) r (strC (upTo sec h t r)) (by simp [Act.eval]) (HE3.out.alloc _).r1 ⟨X2.heap.size, 0, none⟩ 1 1 [.string nv] (by simp [Act.eval]) rfl HNv.out (by simp [Value.oneCell']) (by decide) (by unfold maxLen; omega) (by omega) (by rw [size_alloc]; have := HE3.out.below.size; omega) ?_
              intro g2 cap2 w11 hown hgrow hat _
              refine hK _ _ (fun h => absurd h (by decide)) ?_
              clear hK K d1 d2
              have HE4 := Lib.hid ((HE3.out.alloc _).push1 (ls := [nv]) hown hgrow (lies_apart hat)).turn
              clear hown hgrow hat
              refine wpTail_cons rfl rfl fun K hK => ?_
              go_simp
              refine hK _ _ (fun h => absurd h (by decide)) ?_
              clear hK K
              refine wpTail_calm ?_
              go_wp2_with fail
              go_roundw
              case rel =>
                have hcr := Hcr.out
                have hq := HQ2.out
                refine ⟨c + 2, r + 1, Lib.hid (by omega), by have := HMU.out; omega, by go_num, some ⟨g1, 0, none⟩, q2 + 1, cap1, some ⟨g2, 0, none⟩, cap2, rfl, rfl, by have := HMU.out; omega, Lib.hid (by omega), Lib.hid ?_⟩
                rw [nodesT_succ, upTo_succ, ← hcr, ← Hsa.out, ← Hsb.out, ← Hnt.out, ← Hnv.out, ← List.append_assoc]
                exact HE4.out
              case measure => simp [intOf]; omega
            · have hge : ¬ ((c : Int) + 1 < M) := by omega
              have hge2 : decide ((c : Int) + 1 < M) = false := decide_eq_false hge
              have hrU : r = U := by have := Hcr.out; have := HMU.out; omega
              subst hrU
              have hq := HQ2.out
              have HF : Hid (∃ t, t ≤ h ∧ r = 2 ^ (h - t) ∧ R3 W wr (.slice xo q2 xc) (.slice eo r ec) (.slice none 0 0) q2 r 0 (keysT sec n a ++ upT sec h t) (Sgn.level sec h t) []) := Lib.hid (by
                have hup : upTo sec h t r = Sgn.level sec h (t + 1) := by
                  have e : (Sgn.level sec h t).length / 2 = r := by rw [← HML.out, HMU.out]; omega
                  show _ = Sgn.up _
                  unfold Sgn.up upTo
                  rw [e]
                have hR := HE.out.next
                rw [hup] at hR
                refine ⟨t + 1, hth2, HU.out, ?_⟩
                rw [upT_succ, ← HU.out, ← List.append_assoc]
                exact hR)
              have hk256 : c ≤ 256 := by omega
              have hw1 : IntKind.i64.wrap ((c : Int) + 1) = (c : Int) + 1 := by rw [IntKind.wrap_i64]; omega
              have hmM : r < M := by have := HMU.out; omega
              have hsum : q2 + r ≤ 8008 := by have := HMU.out; omega
              have hr8 : r ≤ 8 := by omega
              clear hltc hq
              go_wp2_with fail
              go_roundw
              case rel => exact ⟨r, xo, q2, xc, eo, ec, rfl, rfl, hr8, hsum, HF⟩
              case measure => simp; omega
        · obtain ⟨t, hth, hMt, hR⟩ := HL.out
          have hte : t = h := by
            rcases Nat.lt_or_ge t h with hh | hh
            · rw [show h - t = (h - t - 1) + 1 by omega, Nat.pow_succ] at hMt
              have hp : 0 < 2 ^ (h - t - 1) := Nat.pow_pos (by decide)
              omega
            · omega
          subst hte
          have HF : Hid (q = (madeV sec t n).length ∧ wp.ownsRow W.heap.size 9 1 (.slice vo q vc) q (strC (madeV sec t n)) ∧ Below W.heap.size W wp) := Lib.hid (by
            have h1 := hR.r1
            rw [show keysT sec n a ++ upT sec t t = madeV sec t n by unfold madeV; rw [← HN.out]] at h1
            refine ⟨?_, h1, hR.below⟩
            have := h1.1
            simp [strC] at this
            omega)
          have hge : ¬ (1 : Int) < M := by omega
          clear hR hMt hlt hth HL
          go_wp2_with fail
          go_ret
          obtain ⟨h1, h2, h3⟩ := HF.out
          refine ⟨vo, vc, by rw [← h1]; rfl, by rw [← h1]; exact h2, by omega, h3⟩

end Go.Proofs.YtfnbdjjobndgfaaDoor

/- The walk of the reference's Checked. -/
namespace Go.Proofs.YtfnbdjjobndgfaaDoor
open Go.RowKit

def chkV (m : ByteArray) (sig : List ByteArray) (k : Nat) : List ByteArray := (List.range k).flatMap fun q => chainedV (Sgn.at_ sig q) (15 - Sgn.dAt m q)
theorem chkV_succ (m : ByteArray) (sig : List ByteArray) (k : Nat) : chkV m sig (k + 1) = chkV m sig k ++ chainedV (Sgn.at_ sig k) (15 - Sgn.dAt m k) := by
  unfold chkV
  rw [List.range_succ, List.flatMap_append]
  simp
def endsTo' (m : ByteArray) (sig : List ByteArray) (n : Nat) : List ByteArray := (List.range n).map fun k => Sgn.chainV (15 - Sgn.dAt m k) (Sgn.at_ sig k)
theorem endsTo'_succ (m : ByteArray) (sig : List ByteArray) (n : Nat) : endsTo' m sig (n + 1) = endsTo' m sig n ++ [Sgn.chainV (15 - Sgn.dAt m n) (Sgn.at_ sig n)] := by
  unfold endsTo'
  rw [List.range_succ, List.map_append]
  rfl
def stepsV (j : Nat) (path : List ByteArray) (a : ByteArray) (q : Nat) : List ByteArray := (List.range q).map (Sgn.stepT j path a)
theorem stepsV_succ (j : Nat) (path : List ByteArray) (a : ByteArray) (q : Nat) : stepsV j path a (q + 1) = stepsV j path a q ++ [Sgn.stepT j path a q] := by
  unfold stepsV
  rw [List.range_succ, List.map_append]
  rfl
/-- What is digested when a seal is verified. -/
def checkedV (m : ByteArray) (j : Nat) (sig path : List ByteArray) : List ByteArray := chkV m sig 18 ++ [Sgn.textOf (Sgn.endsOf m sig)] ++ stepsV j path (Sgn.lst (Sgn.endsOf m sig)) path.length
def CheckedPost (m : ByteArray) (j : Nat) (sig path : List ByteArray) (w : World) (e : Ending) (w' : World) : Prop :=
  ∃ uo uc, e = .returned (.slice uo (checkedV m j sig path).length uc) ∧ IsStrs w' uo (checkedV m j sig path) ∧ 0 < (checkedV m j sig path).length ∧ (checkedV m j sig path).length ≤ 100000 ∧ Below w.heap.size w w'

set_option maxRecDepth 100000 in
set_option maxHeartbeats 16000000 in
theorem refChecked_any (m : ByteArray) (hm : m.size ≤ 140737488351232) (j : Nat) (so po : Option Addr) (c1 c2 : Nat) (sig path : List ByteArray) (h18 : sig.length = 18) (h8 : path.length ≤ 8) (hj : j ≤ 256)
    (hz1 : ∀ s ∈ sig, s.size = 16) (hz2 : ∀ s ∈ path, s.size = 16) (W : World) (h1 : IsStrs W so sig) (h2 : IsStrs W po path) :
    Calls Tryd.prog 24 #[.string m, .agg #[.int .i64 j, .slice so 18 c1, .slice po path.length c2]] W (CheckedPost m j sig path W) := by
  obtain ⟨i1, hi1, hy0, hy1, hy2⟩ := info_parts info_str
  obtain ⟨p, Hp⟩ : ∃ p, Hid (p = path.length) := ⟨_, Lib.hid rfl⟩
  have HDi := Lib.hid fun (X : World) => refDig_any m hm X
  have HS1 := Lib.hid h1
  have HS2 := Lib.hid h2
  have HZ1 := Lib.hid hz1
  have HZ2 := Lib.hid hz2
  have HL := Lib.hid h18
  rw [← Hp.out] at h8 ⊢
  clear h1 h2 hz1 hz2 h18 hm
  go_enter Tryd.func24, Tryd.ntmps24
  go_wp2_with fail
  have hB0 : Below W.heap.size W (W.alloc (.cells #[.int .i64 j, .slice so 18 c1, .slice po p c2] 24)) := (Below.refl _ _).alloc (Nat.le_refl _) _
  refine (HDi.out _).mono ?_
  rintro e W2 ⟨gd, cd, rfl, hdg, hb⟩
  have HDg := Lib.hid hdg
  have HB2 := Lib.hid (below_step hB0 hb)
  have HA := Lib.hid (show Whole W2 W.heap.size 24 #[.int .i64 j, .slice so 18 c1, .slice po p c2] from (hb.block _ (Whole.new _ _ _).lt).trans (Whole.new _ _ _))
  clear hb hdg hB0
  obtain ⟨B, HBq⟩ : ∃ x, Hid (x = W.heap.size) := ⟨_, Lib.hid rfl⟩
  have HA2 : Hid (Whole W2 B 24 #[.int .i64 j, .slice so 18 c1, .slice po p c2]) := Lib.hid (by rw [HBq.out]; exact HA.out)
  rw [← HBq.out]
  clear HA
  go_wp2_with fail
  go_loopw [6, 7, 8] (fun o x i wr => ∃ k : Nat, k ≤ 18 ∧ i = .int .i64 k ∧ ∃ vo q vc eo ec, o = .slice vo q vc ∧ x = .slice eo k ec ∧ q ≤ 20 * k ∧ Hid (R3 W2 wr (.slice vo q vc) (.slice eo k ec) (.slice none 0 0) q k 0 (chkV m sig k) (endsTo' m sig k) [])) (fun _ _ i _ => 18 - (intOf i).toNat)
  case atStart => exact ⟨0, by omega, rfl, none, 0, 0, none, 0, rfl, rfl, by omega, Lib.hid (r3_none _)⟩
  case round =>
    obtain ⟨k, hk, rfl, vo, q, vc, eo, ec, rfl, rfl, hq, HE⟩ := hrel
    obtain ⟨k0, k1, k2⟩ := seal_cells HE.out.below HA2.out
    have HBw : Hid (Below W.heap.size W wr) := Lib.hid (below_step HB2.out HE.out.below)
    by_cases hlt : k < 18
    · have hlt' : (k : Int) < 18 := by omega
      have hns : k < sig.length := by rw [HL.out]; exact hlt
      obtain ⟨bk, off, rfl, hbk, hc⟩ := strs_at (HS1.out.below HBw.out) hns
      have d1 := hc k hns
      obtain ⟨s, Hs⟩ : ∃ s, Hid (s = Sgn.at_ sig k) := ⟨_, Lib.hid rfl⟩
      rw [← Sgn.at_get hns, ← Hs.out] at d1
      have hsz : s.size = 16 := by rw [Hs.out, Sgn.at_get hns]; exact HZ1.out _ (List.getElem_mem _)
      have HSz := Lib.hid hsz
      obtain ⟨d, Hd⟩ : ∃ x, Hid (x = Sgn.dAt m k) := ⟨_, Lib.hid rfl⟩
      have hd15 : d ≤ 15 := by rw [Hd.out]; exact Sgn.dAt_le _ _
      obtain ⟨f, Hf⟩ : ∃ x, Hid (x = 15 - d) := ⟨_, Lib.hid rfl⟩
      have hfd : (15 : Int) - (d : Int) = (f : Int) := by rw [Hf.out]; omega
      have hf15 : f ≤ 15 := by rw [Hf.out]; omega
      have d2 : wr.cell? ⟨gd, k, none⟩ = some (.int .i64 (d : Int)) := by
        rw [HE.out.below.cell (p := ⟨gd, k, none⟩) HDg.out.1, HDg.out.2 k hlt, Hd.out]
      have f1 : ∀ X : Grown wr, X.w.cell? ⟨B, 1, none⟩ = some (.slice (some ⟨bk, off, none⟩) 18 c1) := fun X => (X.cell (lt_of_cell k1)).trans k1
      have f2 : ∀ X : Grown wr, X.w.cell? ⟨bk, off + k, none⟩ = some (.string s) := fun X => (X.cell hbk).trans d1
      have f3 : ∀ X : Grown wr, X.w.cell? ⟨gd, k, none⟩ = some (.int .i64 (d : Int)) := fun X => (X.cell (lt_of_cell d2)).trans d2
      have HGd : Hid (∀ X, Below W2.heap.size W2 X → X.cell? ⟨gd, k, none⟩ = some (.int .i64 (d : Int))) := Lib.hid fun X hX => by
        rw [hX.cell (p := ⟨gd, k, none⟩) HDg.out.1, HDg.out.2 k hlt, Hd.out]
      have HCh := Lib.hid fun (X : World) => refChained_any s (by rw [HSz.out]; decide) f (by omega) X
      clear hc d1 d2 hsz
      go_wp2_with fail
      refine (wpIn_wide (n := 1)).1 ?_
      refine wpIn_region_calm [0, 1, 2, 3, 4, 5, 6, 7, 8, 9] [10, 11] [11] (fun w' => ∃ X : Grown wr, w' = X.w) (by kernel_rfl) (by kernel_rfl) rfl (by kernel_rfl) (by kernel_rfl) ⟨⟨wr.drew, (Below.refl _ _).drew⟩, rfl⟩ ?_
      simp only [List.filterMap_cons, List.filterMap_nil, List.getElem?_toArray, List.getElem?_cons_zero, List.getElem?_cons_succ]
      refine (show wpQuiet _ _ _ _ (_ :: _ :: _ :: _ :: _ :: _ :: _ :: _ :: _ :: _ :: []) _ from ?_)
      repeat (go_big_quiet_step (fail))
      refine wpQuiet_nil ?_
      refine wpTail_cons rfl rfl fun K hK => ?_
      go_simp
      refine ⟨trivial, ?_⟩
      refine (callsIn_wide.2 (HCh.out wr.drew)).mono ?_
      rintro e w4 ⟨g, c, rfl, hrow, hb⟩
      have HX1 : Hid (Below wr.heap.size wr w4) := Lib.hid ((Below.refl _ _).drew.trans hb)
      refine hK _ _ (fun _ => ⟨⟨w4, HX1.out⟩, rfl⟩) ?_
      clear hK K hb f1 f2 f3
      refine wpTail_cons rfl rfl fun K hK => ?_
      go_simp
      refine hK _ _ (fun h => absurd h (by decide)) ?_
      clear hK K
      refine wpTail_calm ?_
      have hrow : w4.ownsRow wr.heap.size 9 1 (.slice (some ⟨g, 0, none⟩) (f + 1) c) (f + 1) (strC (chainedV s f)) := hrow
      have HE4 := Lib.hid (HE.out.grow HX1.out)
      have HCr := Lib.hid hrow
      have hln : (chainedV s f).length = f + 1 := chainedV_len _ _
      have HNc : Hid (∀ (i : Nat) (u : Value), (strC (chainedV s f))[i]? = some u → w4.cell? ((⟨g, 0, none⟩ : Addr).add i) = some u) := Lib.hid (by
        have hrow2 := hrow
        rw [← hln] at hrow2
        exact row_cells hrow2)
      obtain ⟨cv, Hcv⟩ : ∃ y, Hid (y = Sgn.chainV f s) := ⟨_, Lib.hid rfl⟩
      have HKf : Hid (∀ (X : World) b, X.ownsRow b 9 1 (.slice (some ⟨g, 0, none⟩) (f + 1) c) (f + 1) (strC (chainedV s f)) → X.cell? ⟨g, f, none⟩ = some (.string cv)) := Lib.hid fun X b hX => by
        rw [hX.cellAt f (by omega), Hcv.out]
        unfold strC chainedV
        rw [List.getElem?_map, List.getElem?_map, List.getElem?_range (by omega)]
        rfl
      have HApc : Hid (Apart (.slice vo q vc) (.slice (some ⟨g, 0, none⟩) (f + 1) c)) := Lib.hid fun b h1 h2 => by
        have := (HE.out.r1.lt b h1).2
        have := (hrow.lt b h2).1
        omega
      have hf1 : (f : Int) < (f : Int) + 1 := by omega
      clear hrow hln k0 k1 k2
      go_wp2_with (first
        | (at_builtin; refine wpList_append_apart rfl (.tmp 39) (.tmp 40) 22 rfl W2.heap.size 9 i1 (.string ⟨#[]⟩) 1 16 Tryd.underlying22 hi1 hy0 hy1 hy2 rfl (by decide) _ _ _ rfl HE4.out.r1 ⟨g, 0, none⟩ (f + 1) c (strC (chainedV s f)) rfl (by simp [strC, chainedV]) HNc.out (strC_one _) (by unfold maxLen; omega) (by omega) HE4.out.below.size ?_; intro v' w5 hown hgrow hap; have HE5 := Lib.hid (HE4.out.push1 (ls := chainedV s f) hown hgrow hap); have HCr5 := Lib.hid (HApc.out.kept HCr.out hgrow); have k15 := HKf.out _ _ HCr5.out; have k16 := HGd.out _ HE5.out.below; obtain ⟨yo, yc, rfl⟩ := slice_of HE5.out.r1; have HNe := Lib.hid (newCell w5 cv); have HE6 := Lib.hid HE5.out.turn; clear hown hgrow hap)
        | (at_builtin; refine wpList_append_apart rfl (.tmp 42) (.tmp 51) 22 rfl W2.heap.size 9 i1 (.string ⟨#[]⟩) 1 16 Tryd.underlying22 hi1 hy0 hy1 hy2 rfl (by decide) _ _ _ rfl (HE6.out.alloc _).r1 ⟨w5.heap.size, 0, none⟩ 1 1 [.string cv] rfl rfl HNe.out (by simp [Value.oneCell']) (by unfold maxLen; omega) (by omega) (by have := HE6.out.below.size; rw [size_alloc]; omega) ?_; intro v' w6 hown hgrow hap; have HE7 := Lib.hid ((HE6.out.alloc _).push1 (ls := [cv]) hown hgrow hap).turn.turn; obtain ⟨zo, zc, rfl⟩ := slice_of HE7.out.r2; clear hown hgrow hap))
      go_roundw
      case rel =>
        refine ⟨k + 1, by omega, by go_num, yo, q + (f + 1), yc, zo, zc, rfl, rfl, by omega, Lib.hid ?_⟩
        have e1 : chkV m sig (k + 1) = chkV m sig k ++ chainedV s f := by rw [chkV_succ, Hf.out, Hd.out, Hs.out]
        have e2 : endsTo' m sig (k + 1) = endsTo' m sig k ++ [cv] := by rw [endsTo'_succ, Hcv.out, Hf.out, Hd.out, Hs.out]
        rw [e1, e2]
        exact HE7.out
      case measure => simp [intOf]; omega
    · obtain rfl : k = 18 := by omega
      have hsz : ∀ s ∈ endsTo' m sig 18, s.size ≤ 300 := fun s hs => by
        obtain ⟨q, hq, rfl⟩ := List.mem_map.1 hs
        have hq' : q < sig.length := by rw [HL.out]; exact List.mem_range.1 hq
        rw [chain15_size _ _ (by rw [Sgn.at_get hq']; exact HZ1.out _ (List.getElem_mem _))]
        decide
      have hfw := fewE hsz (by simp [endsTo'])
      obtain ⟨kt, Hkt⟩ : ∃ s, Hid (s = Sgn.textOf (Sgn.endsOf m sig)) := ⟨_, Lib.hid rfl⟩
      have hkt : kt.size ≤ 9630 := by rw [Hkt.out]; exact textOf_size _ hfw
      have hJ := refJoined_any eo (endsTo' m sig 18) ec wr (strs_of_row HE.out.r2 (by simp [endsTo'])) hfw
      rw [show (endsTo' m sig 18).length = 18 by simp [endsTo'], show (⟨(joinText (bytesOf (endsTo' m sig 18))).toArray⟩ : ByteArray) = kt by rw [Hkt.out]; rfl] at hJ
      have HJ := Lib.hid hJ
      obtain ⟨kv, Hkv⟩ : ∃ s, Hid (s = Sgn.lst (Sgn.endsOf m sig)) := ⟨_, Lib.hid rfl⟩
      have HSm : Hid (∀ X, Calls Tryd.prog 25 #[.string kt] X fun e w' => e = .returned (.string kv) ∧ X = w') := Lib.hid fun X => by
        have := refSum_any kt (by omega) X
        rw [Hkv.out]
        rw [show digestOf kt.data.toList = Sgn.lst (Sgn.endsOf m sig) by rw [Hkt.out]; rfl] at this
        exact this
      clear hsz hfw hJ
      go_wp2_with fail
      refine HJ.out.mono ?_
      rintro e w3 ⟨rfl, hb⟩
      have HE2 := Lib.hid (HE.out.grow hb)
      have HNw := Lib.hid (newCell w3 kt)
      clear hb k0 k1 k2
      go_wp2_with (at_builtin; go_loud (refine wpList_append_apart rfl (.tmp 55) (.tmp 57) 22 rfl W2.heap.size 9 i1 (.string ⟨#[]⟩) 1 16 Tryd.underlying22 hi1 hy0 hy1 hy2 rfl (by decide) _ _ _ rfl (HE2.out.alloc _).r1 ⟨w3.heap.size, 0, none⟩ 1 1 [.string kt] rfl rfl HNw.out (by simp [Value.oneCell']) (by unfold maxLen; omega) (by omega) (by have := HE2.out.below.size; rw [size_alloc]; omega) ?_); intro v' w10 hown hgrow hap; have HE3 := Lib.hid ((HE2.out.alloc _).push1 (ls := [kt]) hown hgrow hap); obtain ⟨xo, xc, rfl⟩ := slice_of HE3.out.r1; clear hown hgrow hap)
      refine (HSm.out _).mono ?_
      rintro e _ ⟨rfl, rfl⟩
      obtain ⟨k0, k1, k2⟩ := seal_cells HE3.out.below HA2.out
      go_wp2_with fail
      clear k0 k1 k2
      try simp only [show ((18 : Nat) : Int) = 18 from rfl]
      go_loopw [6, 11, 12, 13] (fun o a i x wr => ∃ q2 : Nat, q2 ≤ p ∧ x = .int .i64 q2 ∧ ∃ z : Nat, i = .int .i64 z ∧ z ≤ 256 ∧ Hid (z = j / 2 ^ q2) ∧ ∃ y, a = .string y ∧ Hid (y = Sgn.climbUp j path kv q2 ∧ y.size = 16) ∧ ∃ vo n vc, o = .slice vo n vc ∧ n ≤ 400 + q2 ∧ Hid (R3 W2 wr (.slice vo n vc) (.slice none 0 0) (.slice none 0 0) n 0 0 (chkV m sig 18 ++ [kt] ++ stepsV j path kv q2) [] [])) (fun _ _ _ x _ => p - (intOf x).toNat)
      case atStart => exact ⟨0, by omega, rfl, j, rfl, by omega, Lib.hid (by simp), kv, rfl, Lib.hid ⟨rfl, by rw [Hkv.out]; exact Sgn.lst_size _⟩, xo, q + 1, xc, rfl, by omega, Lib.hid (by
        rw [show chkV m sig 18 ++ [kt] ++ stepsV j path kv 0 = chkV m sig 18 ++ [kt] by simp [stepsV]]
        exact ⟨HE3.out.below, HE3.out.r1, World.ownsRow_nil _ _ _ _, World.ownsRow_nil _ _ _ _, apart_nil _ _ _, apart_nil _ _ _, apart_nil _ _ _⟩)⟩
      case round =>
        obtain ⟨q2, hq2, rfl, z, rfl, hz, HZ, y, rfl, HY, v2, n2, vc2, rfl, hn2, HR⟩ := hrel
        obtain ⟨k0, k1, k2⟩ := seal_cells HR.out.below HA2.out
        have HBz : Hid (Below W.heap.size W wr) := Lib.hid (below_step HB2.out HR.out.below)
        by_cases hlt : q2 < p
        · have hlt' : (q2 : Int) < p := by omega
          have hks : q2 < path.length := by rw [← Hp.out]; exact hlt
          obtain ⟨bk, off, rfl, hbk, hc⟩ := strs_at (HS2.out.below HBz.out) hks
          have HCc : Hid (∀ X, Below W.heap.size W X → X.cell? ⟨bk, off + q2, none⟩ = some (.string (Sgn.at_ path q2))) := Lib.hid fun X hX => by
            obtain ⟨b', o', e, _, h3⟩ := strs_at (HS2.out.below hX) hks
            simp only [Option.some.injEq, Addr.mk.injEq] at e
            obtain ⟨rfl, rfl, -⟩ := e
            rw [h3 q2 hks, Sgn.at_get hks]
          obtain ⟨ot, Hot⟩ : ∃ s, Hid (s = Sgn.at_ path q2) := ⟨_, Lib.hid rfl⟩
          rw [← Hot.out] at HCc
          have d1 := HCc.out wr HBz.out
          have hso : ot.size ≤ 300 := by rw [Hot.out, Sgn.at_get hks, HZ2.out _ (List.getElem_mem _)]; decide
          have hys : y.size ≤ 300 := by rw [HY.out.2]; decide
          have HZ3 : Hid (z / 2 = j / 2 ^ (q2 + 1)) := Lib.hid (by rw [HZ.out, Nat.pow_succ, Nat.div_div_eq_div_mul])
          have HN1 := Lib.hid fun (X : World) => refNode_any y ot hys hso X
          have HN2 := Lib.hid fun (X : World) => refNode_any ot y hso hys X
          obtain ⟨t1, Ht1⟩ : ∃ s, Hid (s = Sgn.nodeTx y ot) := ⟨_, Lib.hid rfl⟩
          obtain ⟨t2, Ht2⟩ : ∃ s, Hid (s = Sgn.nodeTx ot y) := ⟨_, Lib.hid rfl⟩
          rw [← Ht1.out] at HN1
          rw [← Ht2.out] at HN2
          obtain ⟨xt, Hxt⟩ : ∃ s, Hid (s = Sgn.stepT j path kv q2) := ⟨_, Lib.hid rfl⟩
          have hxt : xt = if z % 2 = 1 then t2 else t1 := by
            rw [Hxt.out, HZ.out, Ht1.out, Ht2.out, HY.out.1, Hot.out]
            rfl
          have hxs : xt.size ≤ 9630 := by
            rw [hxt]
            split
            · rw [Ht2.out]; exact textOf_size _ (few3 (by decide) hso hys)
            · rw [Ht1.out]; exact textOf_size _ (few3 (by decide) hys hso)
          obtain ⟨nv, Hnv⟩ : ∃ s, Hid (s = Sgn.climbUp j path kv (q2 + 1)) := ⟨_, Lib.hid rfl⟩
          have HSx : Hid (∀ X, Calls Tryd.prog 25 #[.string xt] X fun e w' => e = .returned (.string nv) ∧ X = w') := Lib.hid fun X => by
            have := refSum_any xt (by omega) X
            rw [Hnv.out, Sgn.step_dg, ← Hxt.out]
            exact this
          have HNs : Hid (nv.size = 16) := Lib.hid (by rw [Hnv.out, Sgn.step_dg]; exact Sgn.dg_size _)
          clear hc hso hys hbk
          by_cases hb : z % 2 = 1
          · have b1 : (((z : Int) % 2) == 1) = true := by simp; omega
            have b2 : (z : Int) % 2 = 1 := by omega
            rw [if_pos hb] at hxt
            subst hxt
            clear hb hxs
            go_wp2_with fail
            refine (HN1.out _).mono ?_
            rintro e w5 ⟨rfl, hb5⟩
            have HR5 := Lib.hid (HR.out.grow hb5)
            clear hb5 d1 k0 k1 k2
            obtain ⟨k0, k1, k2⟩ := seal_cells HR5.out.below HA2.out
            have d1 := HCc.out _ (below_step HB2.out HR5.out.below)
            go_wp2_with fail
            refine (HN2.out _).mono ?_
            rintro e w6 ⟨rfl, hb6⟩
            have HR6 := Lib.hid (HR5.out.grow hb6)
            have HNt := Lib.hid (newCell w6 xt)
            clear hb6 d1 k0 k1 k2
            go_wp2_with (at_builtin; go_loud (refine wpList_append_apart rfl (.tmp 87) (.tmp 89) 22 rfl W2.heap.size 9 i1 (.string ⟨#[]⟩) 1 16 Tryd.underlying22 hi1 hy0 hy1 hy2 rfl (by decide) _ _ _ rfl (HR6.out.alloc _).r1 ⟨w6.heap.size, 0, none⟩ 1 1 [.string xt] rfl rfl HNt.out (by simp [Value.oneCell']) (by unfold maxLen; omega) (by omega) (by have := HR6.out.below.size; rw [size_alloc]; omega) ?_); intro v' w7 hown hgrow hap; have HR7 := Lib.hid ((HR6.out.alloc _).push1 (ls := [xt]) hown hgrow hap); obtain ⟨zo, zc, rfl⟩ := slice_of HR7.out.r1; clear hown hgrow hap)
            refine (HSx.out _).mono ?_
            rintro e _ ⟨rfl, rfl⟩
            go_wp2
            go_roundw
            case rel =>
              refine ⟨q2 + 1, by omega, by go_num, z / 2, by go_num, by omega, HZ3, nv, rfl, Lib.hid ⟨Hnv.out, HNs.out⟩, zo, n2 + 1, zc, rfl, by omega, Lib.hid ?_⟩
              rw [stepsV_succ, ← Hxt.out, ← List.append_assoc]
              exact HR7.out
            case measure => simp [intOf]; omega
          · have b1 : (((z : Int) % 2) == 1) = false := by simp; omega
            have b2 : (z : Int) % 2 = 0 := by omega
            rw [if_neg hb] at hxt
            subst hxt
            clear hb hxs
            go_wp2_with fail
            refine (HN1.out _).mono ?_
            rintro e w5 ⟨rfl, hb5⟩
            have HR5 := Lib.hid (HR.out.grow hb5)
            have HNt := Lib.hid (newCell w5 xt)
            clear hb5 d1 k0 k1 k2
            go_wp2_with (at_builtin; go_loud (refine wpList_append_apart rfl (.tmp 87) (.tmp 89) 22 rfl W2.heap.size 9 i1 (.string ⟨#[]⟩) 1 16 Tryd.underlying22 hi1 hy0 hy1 hy2 rfl (by decide) _ _ _ rfl (HR5.out.alloc _).r1 ⟨w5.heap.size, 0, none⟩ 1 1 [.string xt] rfl rfl HNt.out (by simp [Value.oneCell']) (by unfold maxLen; omega) (by omega) (by have := HR5.out.below.size; rw [size_alloc]; omega) ?_); intro v' w7 hown hgrow hap; have HR7 := Lib.hid ((HR5.out.alloc _).push1 (ls := [xt]) hown hgrow hap); obtain ⟨zo, zc, rfl⟩ := slice_of HR7.out.r1; clear hown hgrow hap)
            refine (HSx.out _).mono ?_
            rintro e _ ⟨rfl, rfl⟩
            go_wp2
            go_roundw
            case rel =>
              refine ⟨q2 + 1, by omega, by go_num, z / 2, by go_num, by omega, HZ3, nv, rfl, Lib.hid ⟨Hnv.out, HNs.out⟩, zo, n2 + 1, zc, rfl, by omega, Lib.hid ?_⟩
              rw [stepsV_succ, ← Hxt.out, ← List.append_assoc]
              exact HR7.out
            case measure => simp [intOf]; omega
        · obtain rfl : p = q2 := by omega
          have HF : Hid (n2 = (checkedV m j sig path).length ∧ IsStrs wr v2 (checkedV m j sig path)) := Lib.hid (by
            have e : chkV m sig 18 ++ [kt] ++ stepsV j path kv p = checkedV m j sig path := by unfold checkedV; rw [← Hkt.out, ← Hkv.out, ← Hp.out]
            have h1 := HR.out.r1
            rw [e] at h1
            have h3 : n2 = (checkedV m j sig path).length := by
              have := h1.1
              simp [strC] at this
              omega
            exact ⟨h3, strs_of_row h1 h3⟩)
          have hpos : 0 < (checkedV m j sig path).length := by unfold checkedV; simp; omega
          clear k0 k1 k2
          obtain ⟨k0, k1, k2⟩ := seal_cells HR.out.below HA2.out
          have HPos := Lib.hid hpos
          clear hpos
          go_wp2_with fail
          go_ret
          obtain ⟨g1, g2⟩ := HF.out
          exact ⟨v2, vc2, by rw [← g1]; rfl, g2, HPos.out, by omega, HBz.out⟩

end Go.Proofs.YtfnbdjjobndgfaaDoor

/- What the lists of digested texts hold. -/
namespace Go.Proofs.YtfnbdjjobndgfaaDoor
open Go.RowKit

theorem made_keyT {sec : ByteArray} {h n i : Nat} (hi : i < 2 ^ h) {x : ByteArray} (hx : x ∈ keyT sec i n 18) : x ∈ madeV sec h n := by
  unfold madeV keysT
  exact List.mem_append_left _ (List.mem_flatMap.2 ⟨i, List.mem_range.2 hi, List.mem_append_left _ hx⟩)
theorem made_key {sec : ByteArray} {h n i : Nat} (hi : i < 2 ^ h) : Sgn.textOf (Sgn.endsV sec i) ∈ madeV sec h n := by
  unfold madeV keysT
  exact List.mem_append_left _ (List.mem_flatMap.2 ⟨i, List.mem_range.2 hi, List.mem_append_right _ (by simp)⟩)
theorem made_start {sec : ByteArray} {h n i k : Nat} (hi : i < 2 ^ h) (hk : k < 18) : Sgn.startT sec i k ∈ madeV sec h n :=
  made_keyT hi (List.mem_flatMap.2 ⟨k, List.mem_range.2 hk, by simp⟩)
theorem made_chain {sec : ByteArray} {h n i k c : Nat} (hi : i < 2 ^ h) (hk : k < 18) (hc : c ≤ n) : Sgn.chainV c (Sgn.startV sec i k) ∈ madeV sec h n :=
  made_keyT hi (List.mem_flatMap.2 ⟨k, List.mem_range.2 hk, List.mem_cons_of_mem _ (List.mem_map.2 ⟨c, List.mem_range.2 (by omega), rfl⟩)⟩)
theorem made_node {sec : ByteArray} {h n t q : Nat} (ht : t < h) (hq : q < 2 ^ (h - (t + 1))) : Sgn.nodeTx (Sgn.at_ (Sgn.level sec h t) (2 * q)) (Sgn.at_ (Sgn.level sec h t) (2 * q + 1)) ∈ madeV sec h n := by
  unfold madeV upT nodesT
  exact List.mem_append_right _ (List.mem_flatMap.2 ⟨t, List.mem_range.2 ht, List.mem_map.2 ⟨q, List.mem_range.2 hq, rfl⟩⟩)
theorem has_tree {L : List ByteArray} {sec : ByteArray} {h n : Nat} (hL : ∀ x ∈ madeV sec h n, x ∈ L) : Sgn.HasTree L sec h :=
  ⟨fun _ hq => hL _ (made_key hq), fun _ ht _ hq => hL _ (made_node ht hq)⟩
theorem has_path {L : List ByteArray} {m : ByteArray} {j : Nat} {sig path : List ByteArray} (hL : ∀ x ∈ checkedV m j sig path, x ∈ L) : Sgn.HasPath L m j sig path :=
  ⟨hL _ (by unfold checkedV; simp), fun q hq => hL _ (by
    unfold checkedV stepsV
    exact List.mem_append_right _ (List.mem_map.2 ⟨q, List.mem_range.2 hq, rfl⟩))⟩
theorem checked_chain {m : ByteArray} {j : Nat} {sig path : List ByteArray} {k c : Nat} (hk : k < 18) (hc : c ≤ 15 - Sgn.dAt m k) : Sgn.chainV c (Sgn.at_ sig k) ∈ checkedV m j sig path := by
  unfold checkedV chkV
  exact List.mem_append_left _ (List.mem_append_left _ (List.mem_flatMap.2 ⟨k, List.mem_range.2 hk, List.mem_map.2 ⟨c, List.mem_range.2 (by omega), rfl⟩⟩))
theorem chain_le (c : Nat) (s : ByteArray) (h : s.size ≤ 9630) : (Sgn.chainV c s).size ≤ 9630 := by
  cases c with
  | zero => exact h
  | succ c => show (Sgn.dg _).size ≤ _; rw [Sgn.dg_size]; decide
theorem ends_few (sec : ByteArray) (i : Nat) : fewB (Sgn.endsV sec i) 300 = true := fewE (fun s hs => by
  obtain ⟨q, _, rfl⟩ := List.mem_map.1 hs
  rw [chain15_size _ _ (startV_size _ _ _)]; decide) (by simp [Sgn.endsV])
theorem made_size {sec : ByteArray} (hs : sec.size ≤ 300) {h n : Nat} (hh : h ≤ 8) : ∀ x ∈ madeV sec h n, x.size ≤ 9630 := by
  intro x hx
  have h8 : 2 ^ h ≤ 2 ^ 8 := Nat.pow_le_pow_right (by decide) hh
  unfold madeV keysT at hx
  rcases List.mem_append.1 hx with hx | hx
  · obtain ⟨i, hi, hx⟩ := List.mem_flatMap.1 hx
    have hi := List.mem_range.1 hi
    rcases List.mem_append.1 hx with hx | hx
    · obtain ⟨k, hk, hx⟩ := List.mem_flatMap.1 hx
      have hk := List.mem_range.1 hk
      rcases List.mem_cons.1 hx with rfl | hx
      · exact textOf_size _ (few3 hs (by have := decT_size i (by omega); omega) (by have := decT_size k (by omega); omega))
      · obtain ⟨c, _, rfl⟩ := List.mem_map.1 hx
        exact chain_le c _ (by rw [startV_size]; decide)
    · simp only [List.mem_cons, List.not_mem_nil, or_false] at hx
      subst hx
      exact textOf_size _ (ends_few sec i)
  · obtain ⟨t, ht, hx⟩ := List.mem_flatMap.1 hx
    have ht := List.mem_range.1 ht
    obtain ⟨q, hq, rfl⟩ := List.mem_map.1 hx
    have hq := List.mem_range.1 hq
    have hl : (Sgn.level sec h t).length = 2 * 2 ^ (h - (t + 1)) := by rw [Sgn.level_len sec h t (by omega), show h - t = (h - (t + 1)) + 1 by omega, Nat.pow_succ]; omega
    refine textOf_size _ (few3 (by decide) ?_ ?_)
    · rw [Sgn.at_get (by omega), level_size sec h t _ (List.getElem_mem _)]; decide
    · rw [Sgn.at_get (by omega), level_size sec h t _ (List.getElem_mem _)]; decide
theorem checked_size {m : ByteArray} {j : Nat} {sig path : List ByteArray} (h18 : sig.length = 18) (hz1 : ∀ s ∈ sig, s.size = 16) (hz2 : ∀ s ∈ path, s.size = 16) : ∀ x ∈ checkedV m j sig path, x.size ≤ 9630 := by
  have ha : ∀ k, k < 18 → (Sgn.at_ sig k).size = 16 := fun k hk => by rw [Sgn.at_get (by omega)]; exact hz1 _ (List.getElem_mem _)
  intro x hx
  unfold checkedV at hx
  rcases List.mem_append.1 hx with hx | hx
  · rcases List.mem_append.1 hx with hx | hx
    · obtain ⟨k, hk, hx⟩ := List.mem_flatMap.1 hx
      have hk := List.mem_range.1 hk
      obtain ⟨c, _, rfl⟩ := List.mem_map.1 hx
      exact chain_le c _ (by rw [ha k hk]; decide)
    · simp only [List.mem_cons, List.not_mem_nil, or_false] at hx
      subst hx
      refine textOf_size _ (fewE (fun s hs => ?_) (by simp [Sgn.endsOf]))
      obtain ⟨k, hk, rfl⟩ := List.mem_map.1 hs
      rw [chain15_size _ _ (ha k (List.mem_range.1 hk))]; decide
  · obtain ⟨q, hq, rfl⟩ := List.mem_map.1 hx
    have hq := List.mem_range.1 hq
    have h1 : (Sgn.at_ path q).size ≤ 300 := by rw [Sgn.at_get hq, hz2 _ (List.getElem_mem _)]; decide
    have h2 : (Sgn.climbUp j path (Sgn.lst (Sgn.endsOf m sig)) q).size ≤ 300 := by rw [Sgn.climb_size _ _ _ (Sgn.lst_size _)]; decide
    unfold Sgn.stepT
    split
    · exact textOf_size _ (few3 (by decide) h1 h2)
    · exact textOf_size _ (few3 (by decide) h2 h1)
/-- P2.5: a seal by another secret is accepted only where two texts have one digest. -/
theorem secrets_coll {sec oth : ByteArray} {h : Nat} (hne : sec ≠ oth) (hr : Sgn.rootV sec h = Sgn.rootV oth h) : Coll (madeV sec h 15 ++ madeV oth h 15) := by
  refine Classical.byContradiction fun hn => hne ?_
  have hI := not_coll hn
  have hp : 0 < 2 ^ h := Nat.pow_pos (by decide)
  refine Sgn.secrets hI (has_tree fun x hx => List.mem_append_left _ hx) (has_tree fun x hx => List.mem_append_right _ hx) (fun k hk => ⟨List.mem_append_left _ (made_start hp hk), fun c hc => List.mem_append_left _ (made_chain hp hk hc)⟩)
    (fun k hk => ⟨List.mem_append_right _ (made_start hp hk), fun c hc => List.mem_append_right _ (made_chain hp hk hc)⟩) hr
/-- P2.4. -/
theorem binds_coll {sec m o : ByteArray} {h i : Nat} (hd : Sgn.dg m ≠ Sgn.dg o) (hh : h ≤ 8) (hi : i < 2 ^ h) (hr : Sgn.rootOf o i (Sgn.sigV sec i m) (Sgn.pathV sec h i) = Sgn.rootV sec h) : Coll (madeV sec h 30 ++ checkedV o i (Sgn.sigV sec i m) (Sgn.pathV sec h i)) := by
  refine Classical.byContradiction fun hn => ?_
  have hI := not_coll hn
  exact Sgn.binds hI (has_tree fun x hx => List.mem_append_left _ hx) (fun j hj k hk => ⟨List.mem_append_left _ (made_start hj hk), fun c hc => List.mem_append_left _ (made_chain hj hk hc)⟩) hd hh hi (has_path fun x hx => List.mem_append_right _ hx) hr
/-- P2.3. -/
theorem sound_coll {sec m : ByteArray} {h j : Nat} {sig path : List ByteArray} (hl : sig.length = 18) (hp8 : path.length ≤ 8) (hj : j < 2 ^ path.length) (hr : Sgn.rootOf m j sig path = Sgn.rootV sec h)
    (hne : ¬ (path.length = h ∧ path = Sgn.pathV sec h j ∧ sig = Sgn.sigV sec j m)) : Coll (madeV sec h 15 ++ checkedV m j sig path) := by
  refine Classical.byContradiction fun hn => hne ?_
  have hI := not_coll hn
  exact Sgn.sound hI (has_tree fun x hx => List.mem_append_left _ hx) (fun i hi k hk c hc => List.mem_append_left _ (made_chain hi hk hc)) (has_path fun x hx => List.mem_append_right _ hx) (fun k hk c hc => List.mem_append_right _ (checked_chain hk hc)) hl hp8 hj hr

end Go.Proofs.YtfnbdjjobndgfaaDoor
