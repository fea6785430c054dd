/- The reference's put as mathematics: what it makes of a list of names, one after the other, is what sorting and compacting makes. -/
import Derived.Test.YtolnpimnoajcaaaRefEvent
import Derived.Test.YtolnpimnoajcaaaEntGuard
import Derived.Test.YtolnpimnoajcaaaMemMoreG
import Derived.Test.YtolnpimnoajcaaaLnkOf1
import Derived.Test.YtolnpimnoajcaaaLnkHas
import Derived.Test.YtolnpimnoajcaaaRepValid
import Derived.Test.YtolnpimnoajcaaaRepNamesW
import Derived.Test.YtolnpimnoajcaaaLnkFew
namespace Go.Proofs.Ytolnpimnoajcaaa
open Go.RowKit
open Evt

namespace Evt
/-- Where a text belongs. -/
def putAt (ss : List (List UInt8)) (s : List UInt8) : Nat := (ss.takeWhile fun y => decide (y < s)).length
def putF (ss : List (List UInt8)) (s : List UInt8) : List (List UInt8) := if ss[putAt ss s]? = some s then ss else ss.take (putAt ss s) ++ [s] ++ ss.drop (putAt ss s)
theorem putAt_le (ss : List (List UInt8)) (s : List UInt8) : putAt ss s ≤ ss.length := (List.takeWhile_prefix _).length_le
theorem put_before {ss : List (List UInt8)} {s : List UInt8} {j : Nat} (h : j < putAt ss s) : ∃ hj : j < ss.length, ss[j] < s := by
  have hj : j < ss.length := Nat.lt_of_lt_of_le h (putAt_le ss s)
  refine ⟨hj, ?_⟩
  have hm : (ss.takeWhile fun y => decide (y < s))[j]'h ∈ ss.takeWhile fun y => decide (y < s) := List.getElem_mem _
  have h2 := List.all_eq_true.1 (List.all_takeWhile (p := fun y => decide (y < s)) (l := ss)) _ hm
  have h3 : (ss.takeWhile fun y => decide (y < s))[j]'h = ss[j] := List.IsPrefix.getElem (List.takeWhile_prefix _) h
  rw [h3] at h2
  exact of_decide_eq_true h2
theorem put_stop {ss : List (List UInt8)} {s : List UInt8} (h : putAt ss s < ss.length) : ¬ ss[putAt ss s] < s := by
  have key : ∀ (l : List (List UInt8)) (h : (l.takeWhile fun y => decide (y < s)).length < l.length), ¬ l[(l.takeWhile fun y => decide (y < s)).length] < s := by
    intro l
    induction l with
    | nil => intro h; simp at h
    | cons a l ih =>
      intro h
      by_cases ha : a < s
      · have e : (a :: l).takeWhile (fun y => decide (y < s)) = a :: l.takeWhile (fun y => decide (y < s)) := by rw [List.takeWhile_cons, if_pos (decide_eq_true ha)]
        simp only [e, List.length_cons] at h ⊢
        exact ih (by omega)
      · have e : (a :: l).takeWhile (fun y => decide (y < s)) = [] := by rw [List.takeWhile_cons, if_neg (by simpa using ha)]
        simp only [e]
        exact ha
  exact key ss h
theorem putAt_unique {ss : List (List UInt8)} {s : List UInt8} {k : Nat} (hk : k ≤ ss.length) (h1 : ∀ j (hj : j < ss.length), j < k → ss[j] < s) (h2 : ∀ hj : k < ss.length, ¬ ss[k] < s) : putAt ss s = k := by
  rcases Nat.lt_trichotomy (putAt ss s) k with h | h | h
  · have hl : putAt ss s < ss.length := by omega
    exact absurd (h1 _ hl h) (put_stop hl)
  · exact h
  · obtain ⟨hj, hlt⟩ := put_before h
    exact absurd hlt (h2 hj)
/-- Strictly increasing. -/
def Strict (ss : List (List UInt8)) : Prop := ss.Pairwise (· < ·)
theorem lt_of_not {a b : List UInt8} (h : ¬ a < b) (hne : a ≠ b) : b < a := by
  rcases List.le_total a b with h1 | h1
  · rcases List.le_iff_lt_or_eq.1 h1 with h2 | h2
    · exact absurd h2 h
    · exact absurd h2 hne
  · rcases List.le_iff_lt_or_eq.1 h1 with h2 | h2
    · exact h2
    · exact absurd h2.symm hne
theorem put_mem {ss : List (List UInt8)} {s x : List UInt8} : x ∈ putF ss s ↔ (x ∈ ss ∨ x = s) := by
  unfold putF
  split
  · rename_i h
    exact ⟨Or.inl, fun hh => hh.elim id (fun e => by rw [e]; exact List.mem_of_getElem? h)⟩
  · rw [List.mem_append, List.mem_append, List.mem_singleton]
    conv => rhs; rw [← List.take_append_drop (putAt ss s) ss, List.mem_append]
    constructor
    · rintro ((h | h) | h)
      · exact Or.inl (Or.inl h)
      · exact Or.inr h
      · exact Or.inl (Or.inr h)
    · rintro ((h | h) | h)
      · exact Or.inl (Or.inl h)
      · exact Or.inr h
      · exact Or.inl (Or.inr h)
theorem put_strict {ss : List (List UInt8)} {s : List UInt8} (h : Strict ss) : Strict (putF ss s) := by
  unfold putF
  split
  · exact h
  · rename_i hne
    have hp := List.pairwise_iff_getElem.1 h
    unfold Strict
    rw [List.append_assoc, List.pairwise_append]
    refine ⟨h.sublist (List.take_sublist _ _), ?_, ?_⟩
    · rw [List.singleton_append, List.pairwise_cons]
      refine ⟨fun y hy => ?_, h.sublist (List.drop_sublist _ _)⟩
      obtain ⟨j, hj, rfl⟩ := List.getElem_of_mem hy
      rw [List.length_drop] at hj
      rw [List.getElem_drop]
      have hl : putAt ss s < ss.length := by omega
      have h0 : s < ss[putAt ss s] := lt_of_not (put_stop hl) (fun e => hne (by rw [List.getElem?_eq_getElem hl, e]))
      by_cases hj0 : j = 0
      · subst hj0; exact h0
      · exact List.lt_trans h0 (hp (putAt ss s) (putAt ss s + j) hl (by omega) (by omega))
    · intro a ha b hb
      obtain ⟨i, hi, rfl⟩ := List.getElem_of_mem ha
      rw [List.length_take] at hi
      rw [List.getElem_take]
      obtain ⟨hil, his⟩ := put_before (ss := ss) (s := s) (j := i) (by omega)
      rw [List.singleton_append, List.mem_cons] at hb
      rcases hb with rfl | hb
      · exact his
      · obtain ⟨j, hj, rfl⟩ := List.getElem_of_mem hb
        rw [List.length_drop] at hj
        rw [List.getElem_drop]
        exact hp i (putAt ss s + j) hil (by omega) (by omega)
theorem put_len (ss : List (List UInt8)) (s : List UInt8) : (putF ss s).length ≤ ss.length + 1 := by
  unfold putF
  split
  · omega
  · simp only [List.length_append, List.length_take, List.length_singleton, List.length_drop]; omega
def putAll (ss l : List (List UInt8)) : List (List UInt8) := l.foldl putF ss
theorem putAll_mem {x : List UInt8} : ∀ {l ss : List (List UInt8)}, x ∈ putAll ss l ↔ (x ∈ ss ∨ x ∈ l)
  | [], ss => by simp [putAll]
  | s :: l, ss => by
    have := putAll_mem (x := x) (l := l) (ss := putF ss s)
    unfold putAll at this ⊢
    rw [List.foldl_cons, this, put_mem, List.mem_cons, or_assoc]
theorem putAll_strict : ∀ {l ss : List (List UInt8)}, Strict ss → Strict (putAll ss l)
  | [], ss, h => h
  | s :: l, ss, h => by
    have := putAll_strict (l := l) (put_strict (s := s) h)
    unfold putAll at this ⊢
    exact this
theorem strict_unique : ∀ {a b : List (List UInt8)}, Strict a → Strict b → (∀ x, x ∈ a ↔ x ∈ b) → a = b
  | [], [], _, _, _ => rfl
  | [], y :: b, _, _, h => by have := (h y).2 (List.mem_cons_self ..); simp at this
  | x :: a, [], _, _, h => by have := (h x).1 (List.mem_cons_self ..); simp at this
  | x :: a, y :: b, ha, hb, h => by
    have ha' := List.pairwise_cons.1 ha
    have hb' := List.pairwise_cons.1 hb
    have hxy : x = y := by
      have h1 := (h x).1 (List.mem_cons_self ..)
      have h2 := (h y).2 (List.mem_cons_self ..)
      rcases List.mem_cons.1 h1 with e | e
      · exact e
      · rcases List.mem_cons.1 h2 with e2 | e2
        · exact e2.symm
        · exact absurd (List.lt_trans (hb'.1 x e) (ha'.1 y e2)) (List.lt_irrefl _)
    subst hxy
    congr 1
    refine strict_unique ha'.2 hb'.2 fun z => ⟨fun hz => ?_, fun hz => ?_⟩
    · rcases List.mem_cons.1 ((h z).1 (List.mem_cons_of_mem _ hz)) with e | e
      · subst e; exact absurd (ha'.1 z hz) (List.lt_irrefl _)
      · exact e
    · rcases List.mem_cons.1 ((h z).2 (List.mem_cons_of_mem _ hz)) with e | e
      · subst e; exact absurd (hb'.1 z hz) (List.lt_irrefl _)
      · exact e
theorem compact_strict {zs : List (List UInt8)} (h : zs.Pairwise (fun a b => decide (a ≤ b) = true)) : Strict (Lib.compact zs) := by
  unfold Strict Lib.compact Lib.compactUpTo
  have hp := List.pairwise_iff_getElem.1 h
  rw [List.pairwise_map]
  refine ((List.pairwise_lt_range (n := zs.length)).sublist List.filter_sublist).imp_of_mem ?_
  intro i j hi hj hij
  have hjl : j < zs.length := by simpa using (List.mem_filter.1 hj).1
  have hil : i < zs.length := by omega
  have hk := (List.mem_filter.1 hj).2
  have gi : zs.toArray[i]! = zs[i] := by simp [getElem!_pos, hil]
  have gj : zs.toArray[j]! = zs[j] := by simp [getElem!_pos, hjl]
  rw [gi, gj]
  obtain ⟨q, rfl⟩ : ∃ q, j = q + 1 := ⟨j - 1, by omega⟩
  have hql : q < zs.length := by omega
  have hne : zs[q + 1] ≠ zs[q] := fun e => by
    have gq : zs.toArray[q]! = zs[q] := by simp [getElem!_pos, hql]
    have : zs.toArray[q + 1]! = zs.toArray[q]! := by rw [gj, gq]; exact e
    have := Lib.keeps_neg (m := q + 1) (by omega) this
    rw [hk] at this
    cases this
  have h1 : zs[q] ≤ zs[q + 1] := of_decide_eq_true (hp q (q + 1) hql hjl (by omega))
  have h2 : zs[q] < zs[q + 1] := by
    rcases List.le_iff_lt_or_eq.1 h1 with h | h
    · exact h
    · exact absurd h.symm hne
  by_cases e : i = q
  · subst e; exact h2
  · have h3 : zs[i] ≤ zs[q] := of_decide_eq_true (hp i q hil hql (by omega))
    exact List.lt_of_le_of_lt h3 h2
theorem putAll_srt (l : List (List UInt8)) : putAll [] l = Lib.compact (srt l) :=
  strict_unique (putAll_strict List.Pairwise.nil) (compact_strict (srt_pw l)) fun x => by
    rw [putAll_mem, mem_compact, srt_mem]; simp
end Evt
end Go.Proofs.Ytolnpimnoajcaaa

/- The reference's put. -/
namespace Go.Proofs.Ytolnpimnoajcaaa
open Go.RowKit Go.Sort
open Evt

def ElS (_ : World) (cs : List Value) (s : List UInt8) : Prop := cs = [.string ⟨s.toArray⟩]
theorem stS : ElStable ElS := fun _ _ _ _ h _ => h
theorem plS : ElPlain ElS := fun _ _ cs a h => ⟨h, fun u hu => by
  have h' : cs = [.string ⟨a.toArray⟩] := h
  rw [h'] at hu
  rw [List.mem_singleton.1 hu]; rfl⟩
theorem lenS : ∀ (W : World) (cs : List Value) (a : List UInt8), ElS W cs a → cs.length = 1 := fun _ cs a h => by
  have h' : cs = [.string ⟨a.toArray⟩] := h
  rw [h']; rfl
theorem saysS_flat {W : World} {css : List (List Value)} {ss : List (List UInt8)} (h : Says 1 ElS W css ss) : css.flatten = ss.map encStr := by
  apply List.ext_getElem?
  intro j
  have hf := flat_len h.size
  by_cases hj : j < ss.length
  · have hj' : j < css.length := by rw [h.len]; exact hj
    have h1 := flat_at hj' 0 h.size (by decide)
    have h2 : css[j] = [.string ⟨ss[j].toArray⟩] := h.el j hj hj'
    rw [Nat.mul_one, Nat.add_zero] at h1
    rw [h1, h2, List.getElem?_map, List.getElem?_eq_getElem hj]
    rfl
  · rw [List.getElem?_eq_none (by rw [hf, h.len]; omega), List.getElem?_eq_none (by rw [List.length_map]; omega)]
/-- A row of the call's own that holds texts. -/
structure RowS (W : World) (w : World) (v : Value) (ss : List (List UInt8)) : Prop where
  ex : ∃ css, w.ownsRow W.heap.size 9 1 v ss.length css.flatten ∧ Says 1 ElS w css ss
theorem RowS.below {W w w' : World} {v : Value} {ss : List (List UInt8)} (h : RowS W w v ss) (hb : Below w.heap.size w w') : RowS W w' v ss := by
  obtain ⟨css, h1, h2⟩ := h.ex
  exact ⟨css, owns_belowM h1 hb, h2.below stS hb⟩
theorem RowS.isS {W w : World} {v : Value} {ss : List (List UInt8)} (h : RowS W w v ss) : IsS w v ss := by
  obtain ⟨css, h1, h2⟩ := h.ex
  rw [saysS_flat h2] at h1
  exact IsS.owns h1
theorem run_copy_S {W w : World} (ty : TypeId) {g : Nat} (hg : Whole w g 9 #[]) (hgW : W.heap.size ≤ g) {ao : Option Addr} {ss : List (List UInt8)} {n c : Nat} (hn : n = ss.length) (hm : n ≤ 1000001) (hl : IsL 1 ElS w ao ss) :
    ∃ v w', (Builtin.append_ #[36, 36] ty #[.slice (some ⟨g, 0, none⟩) 0 0, .slice ao n c]).run Try.prog w = .ok v w' ∧ RowS W w' v ss ∧ Below w.heap.size w w' := by
  obtain ⟨i1, hi1, hy0, hy1, hy2⟩ := infoP info_strE
  obtain ⟨v, w', css, hr, r1, r2, r3⟩ := run_copy_list (El := ElS) ty Try.underlying36 hi1 hy0 hy1 hy2 rfl (by decide) stS lenS g hg W.heap.size hgW ss n hn (by unfold maxLen; omega) (by omega) ao c hl
  exact ⟨v, w', hr, ⟨css, by rw [← hn]; exact r1, r2⟩, r3⟩
theorem run_more_S {W w : World} (ty : TypeId) (hW : Below W.heap.size W w) {v : Value} {l m : List (List UInt8)} (h : RowS W w v l) {ao : Option Addr} {k c : Nat} (hk : k = m.length) (h1 : l.length + k ≤ 1000001) (hl : IsL 1 ElS w ao m) :
    ∃ v' w', (Builtin.append_ #[36, 36] ty #[v, .slice ao k c]).run Try.prog w = .ok v' w' ∧ RowS W w' v' (l ++ m) ∧ Below W.heap.size W w' := by
  obtain ⟨i1, hi1, hy0, hy1, hy2⟩ := infoP info_strE
  obtain ⟨css, q1, q2⟩ := h.ex
  obtain ⟨v', w', dss, hr, r1, r2, r3⟩ := run_more_list (El := ElS) ty Try.underlying36 hi1 hy0 hy1 hy2 rfl (by decide) plS lenS W.heap.size hW.size l m l.length k hk v css q1 q2 (by unfold maxLen; omega) (by omega) ao c hl
  exact ⟨v', w', hr, ⟨dss, by rw [List.length_append, ← hk]; exact r1, r2⟩, hW.trans r3⟩
theorem IsS.isL {W : World} {ao : Option Addr} {n c : Nat} {ss : List (List UInt8)} (h : IsS W (.slice ao n c) ss) : n = ss.length ∧ IsL 1 ElS W ao ss := by
  obtain ⟨ao', c', e, h1⟩ := h
  injection e with e1 e2 e3
  subst e1 e2
  refine ⟨rfl, ?_⟩
  by_cases h0 : ss = []
  · exact Or.inl h0
  · have hp : 0 < ss.length := List.length_pos_iff.2 h0
    obtain ⟨b, rfl, hb, _⟩ := h1 0 hp
    refine Or.inr ⟨b, 0, rfl, hb, fun k hk => ⟨_, fun j u hu => ?_, rfl⟩⟩
    obtain ⟨b', e', _, hc⟩ := h1 k hk
    injection e' with e'
    injection e' with e'
    subst e'
    have hj : j = 0 := by have := (List.getElem?_eq_some_iff.1 hu).1; simp at this; exact this
    subst hj
    simp at hu
    subst hu
    rw [Nat.zero_add, Nat.mul_one, Nat.add_zero]
    exact hc
theorem IsL.drop1 {α : Type} {El : World → List Value → α → Prop} {W : World} {b o : Nat} {l : List α} (h : IsL 1 El W (some ⟨b, o, none⟩) l) (k : Nat) : IsL 1 El W (some ⟨b, o + k, none⟩) (l.drop k) := by
  rcases h with h | ⟨bk, off, e, h2, h3⟩
  · exact Or.inl (by rw [h]; simp)
  · injection e with e
    injection e with e1 e2
    subst e1 e2
    refine Or.inr ⟨b, o + k, rfl, h2, fun j hj => ?_⟩
    rw [List.length_drop] at hj
    obtain ⟨cs, h4, h5⟩ := h3 (k + j) (by omega)
    refine ⟨cs, ?_, by rw [List.getElem_drop]; exact h5⟩
    rw [show o + k + j * 1 = o + (k + j) * 1 by omega]
    exact h4
theorem isS_at {W : World} {ao : Option Addr} {n c : Nat} {ss : List (List UInt8)} (h : IsS W (.slice ao n c) ss) {k : Nat} (hk : k < ss.length) : ∃ b, ao = some ⟨b, 0, none⟩ ∧ b < W.heap.size ∧ W.cell? ⟨b, k, none⟩ = some (.string ⟨ss[k].toArray⟩) := by
  obtain ⟨ao', c', e, h1⟩ := h
  injection e with e1 e2 e3
  subst e1
  exact h1 k hk
theorem less_bts {s : List UInt8} {x : ByteArray} : Op.bytesLess (⟨s.toArray⟩ : ByteArray).toList x.toList = decide (s < bts x) := by
  rw [bytesLess_eq, ByteArray.toList_eq, ByteArray.toList_eq]
  rfl

def puK : List FactKey := [(some 4, some 0), (some 7, some 4), (some 7, some 6), (some 11, some 7), (none, some 11), (none, none), (none, some 12)]
def puP (W : World) (ss : List (List UInt8)) (s : List UInt8) (k : Nat) : Nat → Value → World → Prop
  | 0, v, w => ∃ g, v = .slice (some ⟨g, 0, none⟩) 0 0 ∧ W.heap.size ≤ g ∧ Whole w g 9 #[]
  | 1, v, w => RowS W w v (ss.take k)
  | 2, v, w => ∃ g, v = .slice (some ⟨g, 0, none⟩) 1 1 ∧ Whole w g 9 #[.string ⟨s.toArray⟩]
  | 3, v, w => RowS W w v (ss.take k ++ [s])
  | 4, v, w => RowS W w v (ss.take k ++ [s] ++ ss.drop k)
  | 5, _, w => Below W.heap.size W w
  | 6, v, w => RowS W w v (ss.take k ++ [s] ++ ss.drop k)
  | _, _, _ => True
theorem puP_below {W : World} {ss : List (List UInt8)} {s : List UInt8} {k : Nat} : ∀ j u w w', puP W ss s k j u w → Below w.heap.size w w' → puP W ss s k j u w'
  | 0, _, _, _, ⟨g, h1, h2, h3⟩, hb => ⟨g, h1, h2, whole_belowM h3 hb⟩
  | 1, _, _, _, h, hb => h.below hb
  | 2, _, _, _, ⟨g, h1, h2⟩, hb => ⟨g, h1, whole_belowM h2 hb⟩
  | 3, _, _, _, h, hb => h.below hb
  | 4, _, _, _, h, hb => h.below hb
  | 5, _, _, _, h, hb => below_step h hb
  | 6, _, _, _, h, hb => h.below hb
  | _ + 7, _, _, _, _, _ => trivial
def puV (ao : Option Addr) (n c k : Nat) (x : ByteArray) : Nat → Value → Prop
  | 1, v => v = .slice ao n c
  | 2, v => v = .int .i64 k
  | 3, v => v = sliced ao 0 k c 1
  | 5, v => v = .string x
  | 8, v => v = .slice ao n c
  | 9, v => v = .int .i64 k
  | 10, v => v = sliced ao k n c 1
  | _, _ => True
section
variable (d : Option Tmp) (t : TypeId) (pos : String) (af : Array Edge) (g : Option (Nat × Bool)) (A : Act) (w : World)
theorem run_emptyS : (execOp A.eval ⟨d, .buildSlice 36 0 #[], t, pos, af, g⟩).run Try.prog w = .ok (.value (.slice (some ⟨w.heap.size, 0, none⟩) 0 0)) (w.alloc (.cells #[] 9)) := by kernel_rfl
theorem run_oneS (x : Tmp) (s : ByteArray) (hx : A.eval (.tmp x) = .string s) :
    (execOp A.eval ⟨d, .buildSlice 36 1 #[(0, .tmp x)], t, pos, af, g⟩).run Try.prog w = .ok (.value (.slice (some ⟨w.heap.size, 0, none⟩) 1 1)) (w.alloc (.cells #[.string s] 9)) := by
  unfold execOp
  simp only [hx, List.map_toArray, List.map_cons, List.map_nil]
  go_simp
set_option maxRecDepth 100000 in
/-- The first elements. -/
theorem run_headS (x y : Tmp) (ao : Option Addr) (n c k : Nat) (hk : k ≤ c) (hx : A.eval (.tmp x) = .slice ao n c) (hy : A.eval (.tmp y) = .int .i64 k) :
    (execOp A.eval ⟨d, .slice 36 (.tmp x) none (some (.tmp y)) none, t, pos, af, g⟩).run Try.prog w = .ok (.value (sliced ao 0 k c 1)) w := by
  have h0 : (0 : Int) ≤ k := by omega
  have h2 : (k : Int) ≤ c := by omega
  have h1 := run_slice_h (P := Try.prog) w 36 ao n c Try.underlying36 .i64 k h0 h2
  have h3 : (sizeOf 9).run Try.prog w = .ok 1 w := by kernel_rfl
  have h4 := run_sliceAt_slice (P := Try.prog) w 36 (.slice ao n c) none (some (.int .i64 k)) none Try.underlying36
  rw [h1, show Try.prog.elem 36 = 9 from by kernel_rfl, h3] at h4
  unfold execOp
  simp only [hx, hy, Option.map_some, Option.map_none, Sem.run_bind, h4, Result.andThen_ok, Sem.run_pure, Int.toNat_natCast]
set_option maxRecDepth 100000 in
/-- The last ones. -/
theorem run_tailS (x y : Tmp) (ao : Option Addr) (n c k : Nat) (hk : k ≤ n) (hx : A.eval (.tmp x) = .slice ao n c) (hy : A.eval (.tmp y) = .int .i64 k) :
    (execOp A.eval ⟨d, .slice 36 (.tmp x) (some (.tmp y)) none none, t, pos, af, g⟩).run Try.prog w = .ok (.value (sliced ao k n c 1)) w := by
  have h0 : (0 : Int) ≤ k := by omega
  have h2 : (k : Int) ≤ n := by omega
  have h1 := run_slice_l (P := Try.prog) w 36 ao n c Try.underlying36 .i64 k h0 h2
  have h3 : (sizeOf 9).run Try.prog w = .ok 1 w := by kernel_rfl
  have h4 := run_sliceAt_slice (P := Try.prog) w 36 (.slice ao n c) (some (.int .i64 k)) none none Try.underlying36
  rw [h1, show Try.prog.elem 36 = 9 from by kernel_rfl, h3] at h4
  unfold execOp
  simp only [hx, hy, Option.map_some, Option.map_none, Sem.run_bind, h4, Result.andThen_ok, Sem.run_pure, Int.toNat_natCast]
end
theorem head_isL {W : World} {ao : Option Addr} {n c k : Nat} {ss : List (List UInt8)} (h : IsS W (.slice ao n c) ss) : ∃ bo, sliced ao 0 k c 1 = .slice bo k c ∧ IsL 1 ElS W bo (ss.take k) := by
  obtain ⟨rfl, hl⟩ := h.isL
  unfold sliced
  rw [Nat.sub_zero, Nat.sub_zero]
  refine ⟨_, rfl, ?_⟩
  by_cases h0 : ss = []
  · subst h0; exact Or.inl (by simp)
  · obtain ⟨b, rfl, _, _⟩ := isS_at h (k := 0) (List.length_pos_iff.2 h0)
    have e : (if c = 0 then some (⟨b, 0, none⟩ : Addr) else Option.map (fun (x : Addr) => x.add (0 * 1)) (some (⟨b, 0, none⟩ : Addr))) = some (⟨b, 0, none⟩ : Addr) := by
      split
      · rfl
      · show some ((⟨b, 0, none⟩ : Addr).add (0 * 1)) = _
        rw [ptr_add0]
    rw [e]
    exact hl.take k
theorem tail_isL {W : World} {ao : Option Addr} {n c k : Nat} {ss : List (List UInt8)} (h : IsS W (.slice ao n c) ss) (hk : k ≤ n) (hn : n ≤ c) : ∃ bo bc, sliced ao k n c 1 = .slice bo (n - k) bc ∧ IsL 1 ElS W bo (ss.drop k) := by
  obtain ⟨rfl, hl⟩ := h.isL
  unfold sliced
  refine ⟨_, _, rfl, ?_⟩
  by_cases hc : c = k
  · have : ss.drop k = [] := List.drop_eq_nil_of_le (by omega)
    rw [this]; exact Or.inl rfl
  · rw [if_neg hc]
    by_cases h0 : ss = []
    · subst h0; exact Or.inl (by simp)
    · obtain ⟨b, rfl, _, _⟩ := isS_at h (k := 0) (List.length_pos_iff.2 h0)
      have := hl.drop1 k
      rw [Nat.zero_add] at this
      show IsL 1 ElS W (some ((⟨b, 0, none⟩ : Addr).add (k * 1))) _
      rw [ptr_add0, Nat.mul_one]
      exact this
theorem isS_addr {W : World} {ao : Option Addr} {n c : Nat} {ss : List (List UInt8)} (h : IsS W (.slice ao n c) ss) (h0 : ss ≠ []) : ∃ g, ao = some ⟨g, 0, none⟩ := by
  obtain ⟨b, rfl, _, _⟩ := isS_at h (k := 0) (List.length_pos_iff.2 h0)
  exact ⟨b, rfl⟩
theorem own_len {w : World} {b n : Nat} {e : TypeId} {v : Value} {xs : List Value} (h : w.ownsRow b e 1 v n xs) : ∃ ao c, v = .slice ao n c ∧ n ≤ c := by
  rcases h.2 with ⟨rfl, h0⟩ | ⟨g, cap, cur, rfl, _, _, hle, _, hsz, _⟩
  · subst h0; exact ⟨_, _, rfl, Nat.le_refl _⟩
  · refine ⟨_, _, rfl, ?_⟩
    omega
theorem RowS.len {W w : World} {v : Value} {ss : List (List UInt8)} (h : RowS W w v ss) : ∃ ao c, v = .slice ao ss.length c ∧ ss.length ≤ c := by
  obtain ⟨css, h1, _⟩ := h.ex
  exact own_len h1

set_option maxRecDepth 100000 in
set_option maxHeartbeats 8000000 in
theorem put_any (ao : Option Addr) (ss : List (List UInt8)) (c : Nat) (hss : ss.length ≤ 1000000) (hc : ss.length ≤ c) (x : ByteArray) (W : World) (hi : IsS W (.slice ao ss.length c) ss) :
    Calls Try.prog 42 #[.slice ao ss.length c, .string x] W fun e w' => ∃ bo d, e = .returned (.slice bo (putF ss (bts x)).length d) ∧ (putF ss (bts x)).length ≤ d ∧ IsS w' (.slice bo (putF ss (bts x)).length d) (putF ss (bts x)) ∧ Below W.heap.size W w' := by
  have HI := Lib.hid hi
  clear hi
  obtain ⟨F, HF⟩ : ∃ y, Hid (y = putF ss (bts x)) := ⟨_, Lib.hid rfl⟩
  rw [← HF.out]
  obtain ⟨n, Hn⟩ : ∃ n, Hid (n = ss.length) := ⟨_, Lib.hid rfl⟩
  rw [← Hn.out] at hss hc HI ⊢
  go_enter Try.func42, Try.ntmps42
  go_wp2_with fail
  go_loopw [5] (fun i wr => ∃ k : Nat, k ≤ n ∧ i = .int .i64 k ∧ Hid (Below W.heap.size W wr ∧ ∀ j (hj : j < ss.length), j < k → ss[j] < bts x)) (fun i _ => n - (intOf i).toNat)
  case atStart => exact ⟨0, Nat.zero_le _, by go_num, Lib.hid ⟨Below.refl _ _, fun j _ h => by omega⟩⟩
  case round =>
    obtain ⟨k, hk, rfl, HR⟩ := hrel
    have HIr := Lib.hid (HI.out.below HR.out.1)
    have hb0 : (0 : Int) ≤ k := by omega
    by_cases hkn : k < n
    · have hd : decide ((k : Int) < n) = true := decide_eq_true (by omega)
      have hb1 : (k : Int) < n := by omega
      have hks : k < ss.length := by rw [← Hn.out]; exact hkn
      obtain ⟨b, rfl, hb, cs⟩ := isS_at HIr.out hks
      obtain ⟨s, Hs⟩ : ∃ s, Hid (s = ss[k]) := ⟨_, Lib.hid rfl⟩
      rw [← Hs.out] at cs
      obtain ⟨sv, Hsv⟩ : ∃ y : ByteArray, Hid (y = ⟨s.toArray⟩) := ⟨_, Lib.hid rfl⟩
      have HLs : Hid (Op.bytesLess sv.toList x.toList = decide (s < bts x)) := Lib.hid (by rw [Hsv.out]; exact less_bts)
      have HEs : Hid ((sv.toList == x.toList) = decide (s = bts x)) := Lib.hid (by rw [Hsv.out]; exact eq_listL)
      rw [← Hsv.out] at cs
      by_cases hlt : s < bts x
      · have hl1 : Op.bytesLess sv.toList x.toList = true := by rw [HLs.out]; exact decide_eq_true hlt
        have HNx : Hid (∀ j (hj : j < ss.length), j < k + 1 → ss[j] < bts x) := Lib.hid (fun j hj hjk => by
          by_cases e : j < k
          · exact HR.out.2 j hj e
          · obtain rfl : j = k := by omega
            rw [← Hs.out]; exact hlt)
        clear hlt
        go_wp2_with fail
        go_round
        case rel => exact ⟨k + 1, by omega, by go_num, Lib.hid ⟨HR.out.1, HNx.out⟩⟩
        case measure => simp [intOf]; omega
      · have hl1 : Op.bytesLess sv.toList x.toList = false := by rw [HLs.out]; exact decide_eq_false hlt
        have Hat : Hid (putAt ss (bts x) = k) := Lib.hid (putAt_unique (by rw [← Hn.out]; omega) HR.out.2 (fun hj => by rw [← Hs.out]; exact hlt))
        clear hlt
        by_cases hse : s = bts x
        · have HFe : Hid (F = ss) := Lib.hid (by
            rw [HF.out]; unfold putF; rw [if_pos (by rw [Hat.out, List.getElem?_eq_getElem hks, ← Hs.out, hse])])
          have he : (sv.toList == x.toList) = true := by rw [HEs.out]; exact decide_eq_true hse
          clear hse
          go_wp2_with fail
          go_ret
          rw [HFe.out, ← Hn.out]
          exact ⟨_, _, rfl, hc, HIr.out, HR.out.1⟩
        · have HFe : Hid (F = ss.take k ++ [bts x] ++ ss.drop k) := Lib.hid (by
            rw [HF.out]; unfold putF; rw [if_neg (by rw [Hat.out, List.getElem?_eq_getElem hks, ← Hs.out]; simpa using hse), Hat.out])
          have he : (sv.toList == x.toList) = false := by rw [HEs.out]; exact decide_eq_false hse
          clear hse
          obtain ⟨ao, Hao⟩ : ∃ a, Hid (a = some (⟨b, 0, none⟩ : Addr)) := ⟨_, Lib.hid rfl⟩
          go_upto_region 6 with fail
          rw [← Hao.out] at HIr ⊢
          clear cs he hl1 hd
          apply wp_region_guard 45 puK (puP wr ss (bts x) k) (puV ao n c k x) (by kernel_rfl) (by kernel_rfl) rfl
          · intro j tt hj
            match j, hj with
            | 5, _ => exact (Below.refl _ _).drew
            | 0, hj | 1, hj | 2, hj | 3, hj | 4, hj | 6, hj => simp [puK] at hj
            | _ + 7, hj => simp [puK] at hj
          · intro i oo' ho' e w A' hT hei hwn hsee haway
            have s0 : A'.eval (.tmp 0) = .slice ao n c := (haway 0 (by kernel_rfl)).trans rfl
            have s1 : A'.eval (.tmp 1) = .string x := (haway 1 (by kernel_rfl)).trans rfl
            have s5 : A'.eval (.tmp 5) = .int .i64 k := (haway 5 (by kernel_rfl)).trans rfl
            have hlow : Below wr.heap.size wr w := hT.base 5 none rfl (fun _ h => by cases h)
            have hIw := HIr.out.below hlow
            have hi : i < 13 := by have := (List.getElem?_eq_some_iff.1 ho').1; simpa using this
            have hi : i = 0 ∨ i = 1 ∨ i = 2 ∨ i = 3 ∨ i = 4 ∨ i = 5 ∨ i = 6 ∨ i = 7 ∨ i = 8 ∨ i = 9 ∨ i = 10 ∨ i = 11 ∨ i = 12 := by omega
            rcases hi with rfl | rfl | rfl | rfl | rfl | rfl | rfl | rfl | rfl | rfl | rfl | rfl | rfl
            all_goals
              simp only [List.getElem?_cons_succ, List.getElem?_cons_zero, Option.some.injEq] at ho'
              subst ho'
            · refine wp_of_runL (run_emptyS _ _ _ _ _ _ _) ⟨_, rfl, trivial, .below puP_below ((Below.refl _ _).alloc (Nat.le_refl _) _) ?_⟩
              intro j tt hj
              match j, hj with
              | 0, _ => exact ⟨_, rfl, hlow.size, Whole.new _ _ _⟩
              | 1, hj | 2, hj | 3, hj | 4, hj | 5, hj | 6, hj => simp [puK] at hj
              | _ + 7, hj => simp [puK] at hj
            · exact wp_of_runL (run_moveL _ _ _ _ _ _ _ 0 _ s0) ⟨_, rfl, rfl, .plain puP_below (Below.refl _ _) (by decide)⟩
            · exact wp_of_runL (run_moveL _ _ _ _ _ _ _ 5 _ s5) ⟨_, rfl, rfl, .plain puP_below (Below.refl _ _) (by decide)⟩
            · have q1 : A'.eval (.tmp 34) = .slice ao n c := sees_same hwn hsee 34 1 (by kernel_rfl) rfl
              have q2 : A'.eval (.tmp 35) = .int .i64 k := sees_same hwn hsee 35 2 (by kernel_rfl) rfl
              exact wp_of_runL (run_headS _ _ _ _ _ _ _ 34 35 ao n c k (by omega) q1 q2) ⟨_, rfl, rfl, .plain puP_below (Below.refl _ _) (by decide)⟩
            · obtain ⟨v0, hv0⟩ : ∃ v, A'.eval (.tmp 33) = v := ⟨_, rfl⟩
              have q0 := (hsee 33 0 (by kernel_rfl) rfl).1
              rw [hv0] at q0
              obtain ⟨g, rfl, g1, g2⟩ := hT.of 0 (some 4) 0 rfl (fun j h => by cases h; exact hei) _ q0 (hwn.same (by kernel_rfl))
              have q3 : A'.eval (.tmp 36) = sliced ao 0 k c 1 := sees_same hwn hsee 36 3 (by kernel_rfl) rfl
              obtain ⟨ho, hsl, hhl⟩ := head_isL (k := k) hIw
              rw [hsl] at q3
              obtain ⟨v, w', hr, r1, r2⟩ := run_copy_S (W := wr) 36 g2 g1 (ss := ss.take k) (n := k) (c := c) (by rw [List.length_take]; have := Hn.out; omega) (by omega) hhl
              refine wp_of_runL (run_append_two _ _ _ _ _ _ _ w' 33 36 36 _ _ _ hv0 q3 hr) ⟨_, rfl, trivial, .below puP_below r2 ?_⟩
              intro j tt hj
              match j, hj with
              | 1, _ => exact r1
              | 0, hj | 2, hj | 3, hj | 4, hj | 5, hj | 6, hj => simp [puK] at hj
              | _ + 7, hj => simp [puK] at hj
            · exact wp_of_runL (run_moveL _ _ _ _ _ _ _ 1 _ s1) ⟨_, rfl, rfl, .plain puP_below (Below.refl _ _) (by decide)⟩
            · have q5 : A'.eval (.tmp 38) = .string x := sees_same hwn hsee 38 5 (by kernel_rfl) rfl
              refine wp_of_runL (run_oneS _ _ _ _ _ _ _ 38 x q5) ⟨_, rfl, trivial, .below puP_below ((Below.refl _ _).alloc (Nat.le_refl _) _) ?_⟩
              intro j tt hj
              match j, hj with
              | 2, _ => exact ⟨_, rfl, by
                  have e : (⟨(bts x).toArray⟩ : ByteArray) = x := by unfold bts; simp
                  rw [e]; exact Whole.new _ _ _⟩
              | 0, hj | 1, hj | 3, hj | 4, hj | 5, hj | 6, hj => simp [puK] at hj
              | _ + 7, hj => simp [puK] at hj
            · obtain ⟨v4, hv4⟩ : ∃ v, A'.eval (.tmp 37) = v := ⟨_, rfl⟩
              obtain ⟨v6, hv6⟩ : ∃ v, A'.eval (.tmp 39) = v := ⟨_, rfl⟩
              have q4 := (hsee 37 4 (by kernel_rfl) rfl).1
              have q6 := (hsee 39 6 (by kernel_rfl) rfl).1
              rw [hv4] at q4
              rw [hv6] at q6
              have hrow := hT.of 1 (some 7) 4 rfl (fun j h => by cases h; exact hei) _ q4 (hwn.same (by kernel_rfl))
              obtain ⟨g, rfl, hg⟩ := hT.of 2 (some 7) 6 rfl (fun j h => by cases h; exact hei) _ q6 (hwn.same (by kernel_rfl))
              have hone : IsL 1 ElS w (some ⟨g, 0, none⟩) [bts x] := IsL.whole (t := 9) (css := [[.string ⟨(bts x).toArray⟩]]) (by simpa using hg) rfl (by simp) (fun k hk hk' => by
                obtain rfl : k = 0 := by simp at hk; exact hk
                rfl)
              obtain ⟨v, w', hr, r1, r2⟩ := run_more_S 36 hlow hrow (k := 1) (c := 1) (m := [bts x]) rfl (by rw [List.length_take]; have := Hn.out; omega) hone
              refine wp_of_runL (run_append_two _ _ _ _ _ _ _ w' 37 39 36 _ _ _ hv4 hv6 hr) ⟨_, rfl, trivial, ?_, ?_⟩
              · intro j tt hj
                match j, hj with
                | 3, _ => exact r1
                | 0, hj | 1, hj | 2, hj | 4, hj | 5, hj | 6, hj => simp [puK] at hj
                | _ + 7, hj => simp [puK] at hj
              · intro j p hj h1 h2 h3 h4 h5 y hy
                match j, hj, hy with
                | 0, hj, _ => cases hj; exact absurd (h4 4 rfl) (by rw [q4]; simp)
                | 1, hj, _ => cases hj; exact absurd rfl h1
                | 2, hj, _ => cases hj; exact absurd rfl h1
                | 3, hj, _ => cases hj; exact absurd rfl h2
                | 4, hj, _ => cases hj; exact Bool.noConfusion ((show true = _ from by kernel_rfl).trans (h3 11 rfl))
                | 5, _, _ => exact r2
                | 6, hj, _ => cases hj; exact Bool.noConfusion ((show true = _ from by kernel_rfl).trans (h3 12 rfl))
                | _ + 7, _, _ => trivial
            · exact wp_of_runL (run_moveL _ _ _ _ _ _ _ 0 _ s0) ⟨_, rfl, rfl, .plain puP_below (Below.refl _ _) (by decide)⟩
            · exact wp_of_runL (run_moveL _ _ _ _ _ _ _ 5 _ s5) ⟨_, rfl, rfl, .plain puP_below (Below.refl _ _) (by decide)⟩
            · have q1 : A'.eval (.tmp 41) = .slice ao n c := sees_same hwn hsee 41 8 (by kernel_rfl) rfl
              have q2 : A'.eval (.tmp 42) = .int .i64 k := sees_same hwn hsee 42 9 (by kernel_rfl) rfl
              exact wp_of_runL (run_tailS _ _ _ _ _ _ _ 41 42 ao n c k (by omega) q1 q2) ⟨_, rfl, rfl, .plain puP_below (Below.refl _ _) (by decide)⟩
            · obtain ⟨v7, hv7⟩ : ∃ v, A'.eval (.tmp 40) = v := ⟨_, rfl⟩
              have q7 := (hsee 40 7 (by kernel_rfl) rfl).1
              rw [hv7] at q7
              have hrow := hT.of 3 (some 11) 7 rfl (fun j h => by cases h; exact hei) _ q7 (hwn.same (by kernel_rfl))
              have q10 : A'.eval (.tmp 43) = sliced ao k n c 1 := sees_same hwn hsee 43 10 (by kernel_rfl) rfl
              obtain ⟨bo, bc, hsl, htl⟩ := tail_isL hIw (by omega : k ≤ n) hc
              rw [hsl] at q10
              have h4n : e 4 ≠ none := hT.order 7 4 (by rw [q7]; simp) (by kernel_rfl)
              obtain ⟨v, w', hr, r1, r2⟩ := run_more_S 36 hlow hrow (k := n - k) (c := bc) (m := ss.drop k) (by rw [List.length_drop, Hn.out]) (by rw [List.length_append, List.length_take, List.length_singleton]; have := Hn.out; omega) htl
              refine wp_of_runL (run_append_two _ _ _ _ _ _ _ w' 40 43 36 _ _ _ hv7 q10 hr) ⟨_, rfl, trivial, ?_, ?_⟩
              · intro j tt hj
                match j, hj with
                | 4, _ => exact r1
                | 0, hj | 1, hj | 2, hj | 3, hj | 5, hj | 6, hj => simp [puK] at hj
                | _ + 7, hj => simp [puK] at hj
              · intro j p hj h1 h2 h3 h4 h5 y hy
                match j, hj, hy with
                | 0, hj, _ => cases hj; exact absurd (h4 4 rfl) h4n
                | 1, hj, _ => cases hj; exact absurd (h4 7 rfl) (by rw [q7]; simp)
                | 2, hj, _ => cases hj; exact absurd (h4 7 rfl) (by rw [q7]; simp)
                | 3, hj, _ => cases hj; exact absurd rfl h1
                | 4, hj, _ => cases hj; exact absurd rfl h2
                | 5, _, _ => exact r2
                | 6, hj, _ => cases hj; exact Bool.noConfusion ((show true = _ from by kernel_rfl).trans (h3 12 rfl))
                | _ + 7, _, _ => trivial
            · obtain ⟨v11, hv11⟩ : ∃ v, A'.eval (.tmp 44) = v := ⟨_, rfl⟩
              have q11 := (hsee 44 11 (by kernel_rfl) rfl).1
              rw [hv11] at q11
              have hrow := hT.of 4 none 11 rfl (fun _ h => by cases h) _ q11 (hwn.same (by kernel_rfl))
              refine wp_of_runL (run_assignL _ _ _ _ _ _ _ 44 _ hv11) ⟨_, rfl, trivial, .below puP_below (Below.refl _ _) ?_⟩
              intro j tt hj
              match j, hj with
              | 6, _ => exact hrow
              | 0, hj | 1, hj | 2, hj | 3, hj | 4, hj | 5, hj => simp [puK] at hj
              | _ + 7, hj => simp [puK] at hj
          intro e w2 hT hall
          obtain ⟨v0, e0⟩ := hall 0 (by decide)
          obtain ⟨v1, e1⟩ := hall 1 (by decide)
          obtain ⟨v2, e2⟩ := hall 2 (by decide)
          obtain ⟨v3, e3⟩ := hall 3 (by decide)
          obtain ⟨v4, e4⟩ := hall 4 (by decide)
          obtain ⟨v5, e5⟩ := hall 5 (by decide)
          obtain ⟨v6, e6⟩ := hall 6 (by decide)
          obtain ⟨v7, e7⟩ := hall 7 (by decide)
          obtain ⟨v8, e8⟩ := hall 8 (by decide)
          obtain ⟨v9, e9⟩ := hall 9 (by decide)
          obtain ⟨v10, e10⟩ := hall 10 (by decide)
          obtain ⟨v11, e11⟩ := hall 11 (by decide)
          obtain ⟨v12, e12⟩ := hall 12 (by decide)
          have hlow : Below wr.heap.size wr w2 := hT.base 5 none rfl (fun _ h => by cases h)
          have hrow : RowS wr w2 v12 (ss.take k ++ [bts x] ++ ss.drop k) := hT.of 6 none 12 rfl (fun _ h => by cases h) _ e12 (fun g b hg => by cases hg)
          rw [← HFe.out] at hrow
          obtain ⟨ro, rc, rfl, hrc⟩ := hrow.len
          have HRow := Lib.hid hrow.isS
          have HBe := Lib.hid (below_step HR.out.1 hlow)
          simp only [List.length_cons, List.length_nil, Nat.reduceAdd, fillTo, e0, e1, e2, e3, e4, e5, e6, e7, e8, e9, e10, e11, e12, dstOf]
          clear e0 e1 e2 e3 e4 e5 e6 e7 e8 e9 e10 e11 e12 hT hall hrow hlow
          go_simp
          go_wp2_with fail
          go_ret
          exact ⟨_, _, rfl, hrc, HRow.out, HBe.out⟩
    · have hd : decide ((k : Int) < n) = false := decide_eq_false (by omega)
      have Hat : Hid (putAt ss (bts x) = k) := Lib.hid (putAt_unique (by rw [← Hn.out]; omega) HR.out.2 (fun hj => by rw [← Hn.out] at hj; omega))
      have HFe : Hid (F = ss.take k ++ [bts x] ++ ss.drop k) := Lib.hid (by
        rw [HF.out]; unfold putF; rw [if_neg (by rw [Hat.out, List.getElem?_eq_none (by rw [← Hn.out]; omega)]; simp), Hat.out])
      go_upto_region 6 with fail
      clear hd
      apply wp_region_guard 45 puK (puP wr ss (bts x) k) (puV ao n c k x) (by kernel_rfl) (by kernel_rfl) rfl
      · intro j tt hj
        match j, hj with
        | 5, _ => exact (Below.refl _ _).drew
        | 0, hj | 1, hj | 2, hj | 3, hj | 4, hj | 6, hj => simp [puK] at hj
        | _ + 7, hj => simp [puK] at hj
      · intro i oo' ho' e w A' hT hei hwn hsee haway
        have s0 : A'.eval (.tmp 0) = .slice ao n c := (haway 0 (by kernel_rfl)).trans rfl
        have s1 : A'.eval (.tmp 1) = .string x := (haway 1 (by kernel_rfl)).trans rfl
        have s5 : A'.eval (.tmp 5) = .int .i64 k := (haway 5 (by kernel_rfl)).trans rfl
        have hlow : Below wr.heap.size wr w := hT.base 5 none rfl (fun _ h => by cases h)
        have hIw := HIr.out.below hlow
        have hi : i < 13 := by have := (List.getElem?_eq_some_iff.1 ho').1; simpa using this
        have hi : i = 0 ∨ i = 1 ∨ i = 2 ∨ i = 3 ∨ i = 4 ∨ i = 5 ∨ i = 6 ∨ i = 7 ∨ i = 8 ∨ i = 9 ∨ i = 10 ∨ i = 11 ∨ i = 12 := by omega
        rcases hi with rfl | rfl | rfl | rfl | rfl | rfl | rfl | rfl | rfl | rfl | rfl | rfl | rfl
        all_goals
          simp only [List.getElem?_cons_succ, List.getElem?_cons_zero, Option.some.injEq] at ho'
          subst ho'
        · refine wp_of_runL (run_emptyS _ _ _ _ _ _ _) ⟨_, rfl, trivial, .below puP_below ((Below.refl _ _).alloc (Nat.le_refl _) _) ?_⟩
          intro j tt hj
          match j, hj with
          | 0, _ => exact ⟨_, rfl, hlow.size, Whole.new _ _ _⟩
          | 1, hj | 2, hj | 3, hj | 4, hj | 5, hj | 6, hj => simp [puK] at hj
          | _ + 7, hj => simp [puK] at hj
        · exact wp_of_runL (run_moveL _ _ _ _ _ _ _ 0 _ s0) ⟨_, rfl, rfl, .plain puP_below (Below.refl _ _) (by decide)⟩
        · exact wp_of_runL (run_moveL _ _ _ _ _ _ _ 5 _ s5) ⟨_, rfl, rfl, .plain puP_below (Below.refl _ _) (by decide)⟩
        · have q1 : A'.eval (.tmp 34) = .slice ao n c := sees_same hwn hsee 34 1 (by kernel_rfl) rfl
          have q2 : A'.eval (.tmp 35) = .int .i64 k := sees_same hwn hsee 35 2 (by kernel_rfl) rfl
          exact wp_of_runL (run_headS _ _ _ _ _ _ _ 34 35 ao n c k (by omega) q1 q2) ⟨_, rfl, rfl, .plain puP_below (Below.refl _ _) (by decide)⟩
        · obtain ⟨v0, hv0⟩ : ∃ v, A'.eval (.tmp 33) = v := ⟨_, rfl⟩
          have q0 := (hsee 33 0 (by kernel_rfl) rfl).1
          rw [hv0] at q0
          obtain ⟨g, rfl, g1, g2⟩ := hT.of 0 (some 4) 0 rfl (fun j h => by cases h; exact hei) _ q0 (hwn.same (by kernel_rfl))
          have q3 : A'.eval (.tmp 36) = sliced ao 0 k c 1 := sees_same hwn hsee 36 3 (by kernel_rfl) rfl
          obtain ⟨ho, hsl, hhl⟩ := head_isL (k := k) hIw
          rw [hsl] at q3
          obtain ⟨v, w', hr, r1, r2⟩ := run_copy_S (W := wr) 36 g2 g1 (ss := ss.take k) (n := k) (c := c) (by rw [List.length_take]; have := Hn.out; omega) (by omega) hhl
          refine wp_of_runL (run_append_two _ _ _ _ _ _ _ w' 33 36 36 _ _ _ hv0 q3 hr) ⟨_, rfl, trivial, .below puP_below r2 ?_⟩
          intro j tt hj
          match j, hj with
          | 1, _ => exact r1
          | 0, hj | 2, hj | 3, hj | 4, hj | 5, hj | 6, hj => simp [puK] at hj
          | _ + 7, hj => simp [puK] at hj
        · exact wp_of_runL (run_moveL _ _ _ _ _ _ _ 1 _ s1) ⟨_, rfl, rfl, .plain puP_below (Below.refl _ _) (by decide)⟩
        · have q5 : A'.eval (.tmp 38) = .string x := sees_same hwn hsee 38 5 (by kernel_rfl) rfl
          refine wp_of_runL (run_oneS _ _ _ _ _ _ _ 38 x q5) ⟨_, rfl, trivial, .below puP_below ((Below.refl _ _).alloc (Nat.le_refl _) _) ?_⟩
          intro j tt hj
          match j, hj with
          | 2, _ => exact ⟨_, rfl, by
              have e : (⟨(bts x).toArray⟩ : ByteArray) = x := by unfold bts; simp
              rw [e]; exact Whole.new _ _ _⟩
          | 0, hj | 1, hj | 3, hj | 4, hj | 5, hj | 6, hj => simp [puK] at hj
          | _ + 7, hj => simp [puK] at hj
        · obtain ⟨v4, hv4⟩ : ∃ v, A'.eval (.tmp 37) = v := ⟨_, rfl⟩
          obtain ⟨v6, hv6⟩ : ∃ v, A'.eval (.tmp 39) = v := ⟨_, rfl⟩
          have q4 := (hsee 37 4 (by kernel_rfl) rfl).1
          have q6 := (hsee 39 6 (by kernel_rfl) rfl).1
          rw [hv4] at q4
          rw [hv6] at q6
          have hrow := hT.of 1 (some 7) 4 rfl (fun j h => by cases h; exact hei) _ q4 (hwn.same (by kernel_rfl))
          obtain ⟨g, rfl, hg⟩ := hT.of 2 (some 7) 6 rfl (fun j h => by cases h; exact hei) _ q6 (hwn.same (by kernel_rfl))
          have hone : IsL 1 ElS w (some ⟨g, 0, none⟩) [bts x] := IsL.whole (t := 9) (css := [[.string ⟨(bts x).toArray⟩]]) (by simpa using hg) rfl (by simp) (fun k hk hk' => by
            obtain rfl : k = 0 := by simp at hk; exact hk
            rfl)
          obtain ⟨v, w', hr, r1, r2⟩ := run_more_S 36 hlow hrow (k := 1) (c := 1) (m := [bts x]) rfl (by rw [List.length_take]; have := Hn.out; omega) hone
          refine wp_of_runL (run_append_two _ _ _ _ _ _ _ w' 37 39 36 _ _ _ hv4 hv6 hr) ⟨_, rfl, trivial, ?_, ?_⟩
          · intro j tt hj
            match j, hj with
            | 3, _ => exact r1
            | 0, hj | 1, hj | 2, hj | 4, hj | 5, hj | 6, hj => simp [puK] at hj
            | _ + 7, hj => simp [puK] at hj
          · intro j p hj h1 h2 h3 h4 h5 y hy
            match j, hj, hy with
            | 0, hj, _ => cases hj; exact absurd (h4 4 rfl) (by rw [q4]; simp)
            | 1, hj, _ => cases hj; exact absurd rfl h1
            | 2, hj, _ => cases hj; exact absurd rfl h1
            | 3, hj, _ => cases hj; exact absurd rfl h2
            | 4, hj, _ => cases hj; exact Bool.noConfusion ((show true = _ from by kernel_rfl).trans (h3 11 rfl))
            | 5, _, _ => exact r2
            | 6, hj, _ => cases hj; exact Bool.noConfusion ((show true = _ from by kernel_rfl).trans (h3 12 rfl))
            | _ + 7, _, _ => trivial
        · exact wp_of_runL (run_moveL _ _ _ _ _ _ _ 0 _ s0) ⟨_, rfl, rfl, .plain puP_below (Below.refl _ _) (by decide)⟩
        · exact wp_of_runL (run_moveL _ _ _ _ _ _ _ 5 _ s5) ⟨_, rfl, rfl, .plain puP_below (Below.refl _ _) (by decide)⟩
        · have q1 : A'.eval (.tmp 41) = .slice ao n c := sees_same hwn hsee 41 8 (by kernel_rfl) rfl
          have q2 : A'.eval (.tmp 42) = .int .i64 k := sees_same hwn hsee 42 9 (by kernel_rfl) rfl
          exact wp_of_runL (run_tailS _ _ _ _ _ _ _ 41 42 ao n c k (by omega) q1 q2) ⟨_, rfl, rfl, .plain puP_below (Below.refl _ _) (by decide)⟩
        · obtain ⟨v7, hv7⟩ : ∃ v, A'.eval (.tmp 40) = v := ⟨_, rfl⟩
          have q7 := (hsee 40 7 (by kernel_rfl) rfl).1
          rw [hv7] at q7
          have hrow := hT.of 3 (some 11) 7 rfl (fun j h => by cases h; exact hei) _ q7 (hwn.same (by kernel_rfl))
          have q10 : A'.eval (.tmp 43) = sliced ao k n c 1 := sees_same hwn hsee 43 10 (by kernel_rfl) rfl
          obtain ⟨bo, bc, hsl, htl⟩ := tail_isL hIw (by omega : k ≤ n) hc
          rw [hsl] at q10
          have h4n : e 4 ≠ none := hT.order 7 4 (by rw [q7]; simp) (by kernel_rfl)
          obtain ⟨v, w', hr, r1, r2⟩ := run_more_S 36 hlow hrow (k := n - k) (c := bc) (m := ss.drop k) (by rw [List.length_drop, Hn.out]) (by rw [List.length_append, List.length_take, List.length_singleton]; have := Hn.out; omega) htl
          refine wp_of_runL (run_append_two _ _ _ _ _ _ _ w' 40 43 36 _ _ _ hv7 q10 hr) ⟨_, rfl, trivial, ?_, ?_⟩
          · intro j tt hj
            match j, hj with
            | 4, _ => exact r1
            | 0, hj | 1, hj | 2, hj | 3, hj | 5, hj | 6, hj => simp [puK] at hj
            | _ + 7, hj => simp [puK] at hj
          · intro j p hj h1 h2 h3 h4 h5 y hy
            match j, hj, hy with
            | 0, hj, _ => cases hj; exact absurd (h4 4 rfl) h4n
            | 1, hj, _ => cases hj; exact absurd (h4 7 rfl) (by rw [q7]; simp)
            | 2, hj, _ => cases hj; exact absurd (h4 7 rfl) (by rw [q7]; simp)
            | 3, hj, _ => cases hj; exact absurd rfl h1
            | 4, hj, _ => cases hj; exact absurd rfl h2
            | 5, _, _ => exact r2
            | 6, hj, _ => cases hj; exact Bool.noConfusion ((show true = _ from by kernel_rfl).trans (h3 12 rfl))
            | _ + 7, _, _ => trivial
        · obtain ⟨v11, hv11⟩ : ∃ v, A'.eval (.tmp 44) = v := ⟨_, rfl⟩
          have q11 := (hsee 44 11 (by kernel_rfl) rfl).1
          rw [hv11] at q11
          have hrow := hT.of 4 none 11 rfl (fun _ h => by cases h) _ q11 (hwn.same (by kernel_rfl))
          refine wp_of_runL (run_assignL _ _ _ _ _ _ _ 44 _ hv11) ⟨_, rfl, trivial, .below puP_below (Below.refl _ _) ?_⟩
          intro j tt hj
          match j, hj with
          | 6, _ => exact hrow
          | 0, hj | 1, hj | 2, hj | 3, hj | 4, hj | 5, hj => simp [puK] at hj
          | _ + 7, hj => simp [puK] at hj
      intro e w2 hT hall
      obtain ⟨v0, e0⟩ := hall 0 (by decide)
      obtain ⟨v1, e1⟩ := hall 1 (by decide)
      obtain ⟨v2, e2⟩ := hall 2 (by decide)
      obtain ⟨v3, e3⟩ := hall 3 (by decide)
      obtain ⟨v4, e4⟩ := hall 4 (by decide)
      obtain ⟨v5, e5⟩ := hall 5 (by decide)
      obtain ⟨v6, e6⟩ := hall 6 (by decide)
      obtain ⟨v7, e7⟩ := hall 7 (by decide)
      obtain ⟨v8, e8⟩ := hall 8 (by decide)
      obtain ⟨v9, e9⟩ := hall 9 (by decide)
      obtain ⟨v10, e10⟩ := hall 10 (by decide)
      obtain ⟨v11, e11⟩ := hall 11 (by decide)
      obtain ⟨v12, e12⟩ := hall 12 (by decide)
      have hlow : Below wr.heap.size wr w2 := hT.base 5 none rfl (fun _ h => by cases h)
      have hrow : RowS wr w2 v12 (ss.take k ++ [bts x] ++ ss.drop k) := hT.of 6 none 12 rfl (fun _ h => by cases h) _ e12 (fun g b hg => by cases hg)
      rw [← HFe.out] at hrow
      obtain ⟨ro, rc, rfl, hrc⟩ := hrow.len
      have HRow := Lib.hid hrow.isS
      have HBe := Lib.hid (below_step HR.out.1 hlow)
      simp only [List.length_cons, List.length_nil, Nat.reduceAdd, fillTo, e0, e1, e2, e3, e4, e5, e6, e7, e8, e9, e10, e11, e12, dstOf]
      clear e0 e1 e2 e3 e4 e5 e6 e7 e8 e9 e10 e11 e12 hT hall hrow hlow
      go_simp
      go_wp2_with fail
      go_ret
      exact ⟨_, _, rfl, hrc, HRow.out, HBe.out⟩
end Go.Proofs.Ytolnpimnoajcaaa

/- The reference's report: Valid, Choices, Names. -/
namespace Go.Proofs.Ytolnpimnoajcaaa
open Go.RowKit Go.Sort
open Evt

def rvP (N bk off n oc i k : Nat) (a b : Ev) (R : Bool) : Nat → Value → World → Prop
  | 0, v, _ => v = .pointer (some ⟨N, 0, none⟩)
  | 1, v, _ => v = .slice (some ⟨bk, off, none⟩) n oc
  | 2, v, _ => v = .int .i64 k
  | 3, v, _ => v = .pointer (some ⟨bk, off + k * 14, none⟩)
  | 4, v, _ => v = .agg (evC a).toArray
  | 5, v, _ => v = .pointer (some ⟨N, 0, none⟩)
  | 6, v, _ => v = .slice (some ⟨bk, off, none⟩) n oc
  | 7, v, _ => v = .int .i64 i
  | 8, v, _ => v = .pointer (some ⟨bk, off + i * 14, none⟩)
  | 9, v, _ => v = .agg (evC b).toArray
  | 10, v, _ => v = .bool R
  | _, _, _ => True
theorem rvP_below {N bk off n oc i k : Nat} {a b : Ev} {R : Bool} : ∀ j u w w', rvP N bk off n oc i k a b R j u w → Below w.heap.size w w' → rvP N bk off n oc i k a b R j u w'
  | 0, _, _, _, h, _ | 1, _, _, _, h, _ | 2, _, _, _, h, _ | 3, _, _, _, h, _ | 4, _, _, _, h, _ | 5, _, _, _, h, _ | 6, _, _, _, h, _ | 7, _, _, _, h, _ | 8, _, _, _, h, _ | 9, _, _, _, h, _ | 10, _, _, _, h, _ => h
  | _ + 11, _, _, _, _, _ => trivial
section
variable (d : Option Tmp) (t : TypeId) (pos : String) (af : Array Edge) (g : Option (Nat × Bool)) (A : Act) (w : World)
set_option maxRecDepth 100000 in
theorem run_optsAddr (x : Tmp) (b : Nat) (hx : A.eval (.tmp x) = .pointer (some ⟨b, 0, none⟩)) :
    (execOp A.eval ⟨d, .fieldAddr 40 (.tmp x) 0, t, pos, af, g⟩).run Try.prog w = .ok (.value (.pointer (some ⟨b, 0, none⟩))) w := by
  unfold execOp
  simp only [hx]
  go_simp
theorem run_loadEvs (x : Tmp) (p : Addr) (v : Value) (hx : A.eval (.tmp x) = .pointer (some p)) (hc : w.cell? p = some v) :
    (execOp A.eval ⟨d, .load 38 (.tmp x), t, pos, af, g⟩).run Try.prog w = .ok (.value v) w := by
  unfold execOp
  simp only [hx] <;> go_simp
theorem run_indexEv (x y : Tmp) (b o n c j : Nat) (hj : j < n) (hx : A.eval (.tmp x) = .slice (some ⟨b, o, none⟩) n c) (hy : A.eval (.tmp y) = .int .i64 j) :
    (execOp A.eval ⟨d, .indexAddr 38 (.tmp x) (.tmp y), t, pos, af, g⟩).run Try.prog w = .ok (.value (.pointer (some ⟨b, o + j * 14, none⟩))) w := by
  have h0 : (0 : Int) ≤ j := by omega
  have h1 : (j : Int) < n := by omega
  unfold execOp
  simp only [hx, hy]
  go_simp
theorem run_loadEv (x : Tmp) (b o : Nat) (e : Ev) (hx : A.eval (.tmp x) = .pointer (some ⟨b, o, none⟩)) (hr : w.rangeAt b o (evC e)) :
    (execOp A.eval ⟨d, .load 52 (.tmp x), t, pos, af, g⟩).run Try.prog w = .ok (.value (.agg (evC e).toArray)) w := by
  have hld := run_loadVar_mid (P := Try.prog) w b o 52 (evC e) _ hr Try.underlying52 rfl (ev_size.trans rfl)
  unfold execOp
  simp only [hx, Instr.loadAt, Instr.sureAddr, Sem.run_bind, Sem.run_pure, Result.andThen_ok, hld]
theorem run_eqlEv (x y : Tmp) (a b : Ev) (ha : Sz a) (hb : Sz b) (hx : A.eval (.tmp x) = .agg (evC a).toArray) (hy : A.eval (.tmp y) = .agg (evC b).toArray) :
    (execOp A.eval ⟨d, .binOp .eql 52 (.tmp x) (.tmp y) 52, t, pos, af, g⟩).run Try.prog w = .ok (.value (.bool (evEq a b))) w := by
  have h := ev_eql ha hb w
  have hg := ev_guard
  unfold execOp
  simp only [hx, hy]
  simp [eqGuard, h, hg, Result.andThen]
end

set_option maxRecDepth 100000 in
set_option maxHeartbeats 8000000 in
theorem refRValid_any (r : Rp) (oo : Option Addr) (oc : Nat) (hc1 : r.opts.length ≤ oc) (hc2 : oc ≤ 9223372036854775807) (hs : ∀ e ∈ r.opts, Shrt e) (W : World) (hi : IsL 14 ElEv W oo r.opts) :
    Calls Try.prog 40 #[.agg #[.slice oo r.opts.length oc, .bool r.doubt]] W fun e w' => e = .returned (.bool (validR r)) ∧ Below W.heap.size W w' := by
  obtain ⟨l, db⟩ := r
  dsimp only at hc1 hi hs ⊢
  obtain ⟨v, Hv⟩ : ∃ v, Hid (v = validR ⟨l, db⟩) := ⟨_, Lib.hid rfl⟩
  rw [← Hv.out]
  have HV0 : Hid (v = (!decide ((l.length : Int) < 1) && (!decide ((4 : Int) < (l.length : Int)) && okUp l l.length))) := Lib.hid (by rw [Hv.out]; rfl)
  have HI := Lib.hid hi
  have HSh := Lib.hid hs
  have HSp := Lib.hid ev_size
  clear hi hs Hv
  obtain ⟨n, Hn⟩ : ∃ n, Hid (n = l.length) := ⟨_, Lib.hid rfl⟩
  rw [← Hn.out] at HV0 hc1 ⊢
  obtain ⟨V, HV⟩ : ∃ w, Hid (w = W.alloc (.cells #[.slice oo n oc, .bool db] 40)) := ⟨_, Lib.hid rfl⟩
  obtain ⟨N, HN⟩ : ∃ N, Hid (N = W.heap.size) := ⟨_, Lib.hid rfl⟩
  have HB : Hid (Below W.heap.size W V) := Lib.hid (by rw [HV.out]; exact (Below.refl _ _).alloc (Nat.le_refl _) _)
  have HW : Hid (Whole V N 40 #[.slice oo n oc, .bool db]) := Lib.hid (by rw [HV.out, HN.out]; exact Whole.new _ _ _)
  have b0 : V.cell? ⟨N, 0, none⟩ = some (.slice oo n oc) := HW.out.cell 0
  obtain ⟨b1, d1⟩ : ∃ b, decide ((n : Int) < 1) = b := ⟨_, rfl⟩
  obtain ⟨b2, d2⟩ : ∃ b, decide ((4 : Int) < (n : Int)) = b := ⟨_, rfl⟩
  rw [d1, d2] at HV0
  go_enter Try.func40, Try.ntmps40
  go_upto_region 1 with fail
  rw [← HV.out, ← HN.out]
  cases b1 with
  | true =>
    obtain rfl : v = false := by rw [HV0.out]; rfl
    go_wp2_with fail
    go_ret
    exact ⟨rfl, HB.out⟩
  | false =>
  cases b2 with
  | true =>
    obtain rfl : v = false := by rw [HV0.out]; rfl
    go_wp2_with fail
    go_ret
    exact ⟨rfl, HB.out⟩
  | false =>
  have hn1 : 1 ≤ n := by have := of_decide_eq_false d1; omega
  have hn4 : n ≤ 4 := by have := of_decide_eq_false d2; omega
  have HV5 : Hid (v = okUp l n) := Lib.hid (by rw [HV0.out]; rfl)
  go_wp2_with fail
  clear d1 d2 b0
  go_loopw [3] (fun i wr => ∃ k : Nat, k ≤ n ∧ i = .int .i64 k ∧ Hid (Below V.heap.size V wr ∧ okUp l k = true)) (fun i _ => n - (intOf i).toNat)
  case atStart => exact ⟨0, Nat.zero_le _, by go_num, Lib.hid ⟨Below.refl _ _, rfl⟩⟩
  case round =>
    obtain ⟨i, hi, rfl, HR⟩ := hrel
    have HBr := Lib.hid (below_step HB.out HR.out.1)
    have b0 : wr.cell? ⟨N, 0, none⟩ = some (.slice oo n oc) := (whole_belowM HW.out HR.out.1).cell 0
    by_cases hin : i < n
    · have hd : decide ((i : Int) < n) = true := decide_eq_true (by omega)
      have hb0 : (0 : Int) ≤ i := by omega
      have hb1 : (i : Int) < n := by omega
      have hil : i < l.length := by rw [← Hn.out]; exact hin
      obtain ⟨bk, off, cs, rfl, hbk, hrg, rfl, hsz⟩ := HI.out.at hil
      have HRg := Lib.hid (fun w (hw : Below W.heap.size W w) => rangeB hrg hbk hw)
      obtain ⟨y, Hy⟩ : ∃ m, Hid (m = l[i]) := ⟨_, Lib.hid rfl⟩
      rw [← Hy.out] at HRg hsz
      have HSy := Lib.hid hsz
      have hshy : Shrt y := by rw [Hy.out]; exact HSh.out _ (List.getElem_mem hil)
      have HVd := Lib.hid (refValid_any y hsz hshy wr)
      obtain ⟨x1, Hx1⟩ : ∃ b, Hid (b = Evt.valid y) := ⟨_, Lib.hid rfl⟩
      rw [← Hx1.out] at HVd
      have HGet : Hid (l[i]? = some y) := Lib.hid (by rw [Hy.out]; exact List.getElem?_eq_getElem hil)
      have HNoV : Hid (okAt l i y = false → v = false) := Lib.hid (fun h => by rw [HV5.out, Hn.out]; exact okUp_no hil (by rw [okUp_next HGet.out HR.out.2]; exact h))
      clear hrg hsz hshy
      go_wp2_with (first
        | (with_reducible show wpList _ _ _ (Oper.mk _ (Op.load 52 _) _ _ _ _ :: _) _ _; refine wpList_load_mid rfl _ _ rfl bk (off + i * 14) rfl _ _ (HRg.out wr HBr.out) Try.underlying52 rfl (HSp.out.trans rfl) ?_))
      refine HVd.out.mono ?_
      rintro e w1 ⟨rfl, hb⟩
      have HB1 := Lib.hid (below_step HBr.out hb)
      have HBV1 := Lib.hid (below_step HR.out.1 hb)
      clear hb b0
      cases x1 with
      | false =>
        obtain rfl : v = false := HNoV.out (by unfold okAt; rw [← Hx1.out]; rfl)
        go_wp2_with fail
        go_ret
        exact ⟨rfl, HB1.out⟩
      | true =>
      have HOk : Hid (okAt l i y = !((l.take i).any fun z => evEq y z)) := Lib.hid (by unfold okAt; rw [← Hx1.out]; rfl)
      obtain ⟨wo, rfl⟩ : ∃ y, y = wr := ⟨_, rfl⟩
      go_wp2_with fail
      go_loopw [4] (fun j ws => ∃ k : Nat, k ≤ i ∧ j = .int .i64 k ∧ Hid (Below V.heap.size V ws ∧ ((l.take k).any fun z => evEq y z) = false)) (fun j _ => i - (intOf j).toNat)
      case atStart => exact ⟨0, Nat.zero_le _, by go_num, Lib.hid ⟨HBV1.out, rfl⟩⟩
      case round =>
        obtain ⟨k, hk, rfl, HK⟩ := hrel
        have HBk := Lib.hid (below_step HB.out HK.out.1)
        by_cases hki : k < i
        · have hd2 : decide ((k : Int) < i) = true := decide_eq_true (by omega)
          have hkl : k < l.length := by rw [← Hn.out]; omega
          have hkn : k < n := by omega
          obtain ⟨bk', off', cs, e', hbk', hrg, rfl, hsz⟩ := HI.out.at hkl
          injection e' with e'
          injection e' with e1' e2'
          subst e1' e2'
          obtain ⟨z, Hz⟩ : ∃ m, Hid (m = l[k]) := ⟨_, Lib.hid rfl⟩
          rw [← Hz.out] at hrg hsz
          have HSz := Lib.hid hsz
          have HRk := Lib.hid (fun w (hw : Below W.heap.size W w) => rangeB hrg hbk' hw)
          clear hrg hsz
          obtain ⟨R, HRr⟩ : ∃ b, Hid (b = evEq z y) := ⟨_, Lib.hid rfl⟩
          have HSym : Hid (evEq y z = R) := Lib.hid (by rw [HRr.out, Bool.eq_iff_iff, evEq_iff, evEq_iff]; exact eq_comm)
          go_upto_region 11 with fail
          apply wp_region_monoL 45 (rvP N bk off n oc i k z y R) rvP_below (by kernel_rfl) (by kernel_rfl) rfl
          · intro q o ho w A' hlow hsee haway
            have s1 : A'.eval (.tmp 1) = .pointer (some ⟨N, 0, none⟩) := (haway 1 (by kernel_rfl)).trans rfl
            have s3 : A'.eval (.tmp 3) = .int .i64 i := (haway 3 (by kernel_rfl)).trans rfl
            have s4 : A'.eval (.tmp 4) = .int .i64 k := (haway 4 (by kernel_rfl)).trans rfl
            have hVw := below_step HK.out.1 hlow
            have hWw := below_step HBk.out hlow
            have hbox : w.cell? ⟨N, 0, none⟩ = some (.slice (some ⟨bk, off, none⟩) n oc) := (whole_belowM HW.out hVw).cell 0
            have hq : q < 11 := by have := (List.getElem?_eq_some_iff.1 ho).1; simpa using this
            have hq : q = 0 ∨ q = 1 ∨ q = 2 ∨ q = 3 ∨ q = 4 ∨ q = 5 ∨ q = 6 ∨ q = 7 ∨ q = 8 ∨ q = 9 ∨ q = 10 := by omega
            rcases hq with rfl | rfl | rfl | rfl | rfl | rfl | rfl | rfl | rfl | rfl | rfl
            all_goals
              simp only [List.getElem?_cons_succ, List.getElem?_cons_zero, Option.some.injEq] at ho
              subst ho
            · exact wp_of_runL (run_optsAddr _ _ _ _ _ _ _ 1 _ s1) ⟨_, rfl, Below.refl _ _, rfl⟩
            · have q0 : A'.eval (.tmp 34) = .pointer (some ⟨N, 0, none⟩) := hsee 34 (by decide) 0 rfl
              exact wp_of_runL (run_loadEvs _ _ _ _ _ _ _ 34 _ _ q0 hbox) ⟨_, rfl, Below.refl _ _, rfl⟩
            · exact wp_of_runL (run_moveL _ _ _ _ _ _ _ 4 _ s4) ⟨_, rfl, Below.refl _ _, rfl⟩
            · have q1 : A'.eval (.tmp 35) = .slice (some ⟨bk, off, none⟩) n oc := hsee 35 (by decide) 1 rfl
              have q2 : A'.eval (.tmp 36) = .int .i64 k := hsee 36 (by decide) 2 rfl
              exact wp_of_runL (run_indexEv _ _ _ _ _ _ _ 35 36 bk off n oc k hkn q1 q2) ⟨_, rfl, Below.refl _ _, rfl⟩
            · have q3 : A'.eval (.tmp 37) = .pointer (some ⟨bk, off + k * 14, none⟩) := hsee 37 (by decide) 3 rfl
              exact wp_of_runL (run_loadEv _ _ _ _ _ _ _ 37 _ _ z q3 (HRk.out w hWw)) ⟨_, rfl, Below.refl _ _, rfl⟩
            · exact wp_of_runL (run_optsAddr _ _ _ _ _ _ _ 1 _ s1) ⟨_, rfl, Below.refl _ _, rfl⟩
            · have q0 : A'.eval (.tmp 39) = .pointer (some ⟨N, 0, none⟩) := hsee 39 (by decide) 5 rfl
              exact wp_of_runL (run_loadEvs _ _ _ _ _ _ _ 39 _ _ q0 hbox) ⟨_, rfl, Below.refl _ _, rfl⟩
            · exact wp_of_runL (run_moveL _ _ _ _ _ _ _ 3 _ s3) ⟨_, rfl, Below.refl _ _, rfl⟩
            · have q1 : A'.eval (.tmp 40) = .slice (some ⟨bk, off, none⟩) n oc := hsee 40 (by decide) 6 rfl
              have q2 : A'.eval (.tmp 41) = .int .i64 i := hsee 41 (by decide) 7 rfl
              exact wp_of_runL (run_indexEv _ _ _ _ _ _ _ 40 41 bk off n oc i hin q1 q2) ⟨_, rfl, Below.refl _ _, rfl⟩
            · have q3 : A'.eval (.tmp 42) = .pointer (some ⟨bk, off + i * 14, none⟩) := hsee 42 (by decide) 8 rfl
              exact wp_of_runL (run_loadEv _ _ _ _ _ _ _ 42 _ _ y q3 (HRg.out w hWw)) ⟨_, rfl, Below.refl _ _, rfl⟩
            · have q4 : A'.eval (.tmp 38) = .agg (evC z).toArray := hsee 38 (by decide) 4 rfl
              have q9 : A'.eval (.tmp 43) = .agg (evC y).toArray := hsee 43 (by decide) 9 rfl
              exact wp_of_runL (run_eqlEv _ _ _ _ _ _ _ 38 43 z y HSz.out HSy.out q4 q9) ⟨_, rfl, Below.refl _ _, by rw [HRr.out]; rfl⟩
          intro e w5 hlow hall
          obtain ⟨v0, e0, -⟩ := hall 0 (by decide)
          obtain ⟨v1, e1, -⟩ := hall 1 (by decide)
          obtain ⟨v2, e2, -⟩ := hall 2 (by decide)
          obtain ⟨v3, e3, -⟩ := hall 3 (by decide)
          obtain ⟨v4, e4, -⟩ := hall 4 (by decide)
          obtain ⟨v5, e5, -⟩ := hall 5 (by decide)
          obtain ⟨v6, e6, -⟩ := hall 6 (by decide)
          obtain ⟨v7, e7, -⟩ := hall 7 (by decide)
          obtain ⟨v8, e8, -⟩ := hall 8 (by decide)
          obtain ⟨v9, e9, -⟩ := hall 9 (by decide)
          obtain ⟨v10, e10, h10⟩ := hall 10 (by decide)
          have h10' : v10 = .bool R := h10
          subst h10'
          have HB5 := Lib.hid (below_step HK.out.1 hlow)
          have HBW5 := Lib.hid (below_step HBk.out hlow)
          simp only [List.length_cons, List.length_nil, Nat.reduceAdd, fillTo, e0, e1, e2, e3, e4, e5, e6, e7, e8, e9, e10, dstOf]
          clear e0 e1 e2 e3 e4 e5 e6 e7 e8 e9 e10 hlow hall h10
          go_simp
          cases R with
          | true =>
            obtain rfl : v = false := HNoV.out (by
              rw [HOk.out, List.any_eq_true.2 ⟨z, ?_, HSym.out⟩]
              · rfl
              · rw [Hz.out, List.mem_take_iff_getElem]; exact ⟨k, by omega, rfl⟩)
            go_wp2_with fail
            go_ret
            exact ⟨rfl, HBW5.out⟩
          | false =>
            have HNx : Hid (((l.take (k + 1)).any fun z => evEq y z) = false) := Lib.hid (any_next hkl HK.out.2 (by rw [← Hz.out]; exact HSym.out))
            go_wp2_with fail
            go_round
            case rel => exact ⟨k + 1, by omega, by go_num, Lib.hid ⟨HB5.out, HNx.out⟩⟩
            case measure => simp [intOf]; omega
        · obtain rfl : k = i := by omega
          have hd2 : decide ((k : Int) < k) = false := decide_eq_false (by omega)
          have HYes : Hid (okUp l (k + 1) = true) := Lib.hid (by rw [okUp_next HGet.out HR.out.2, HOk.out, HK.out.2]; rfl)
          go_wp2_with fail
          go_round
          case rel => exact ⟨k + 1, by omega, by go_num, Lib.hid ⟨HK.out.1, HYes.out⟩⟩
          case measure => simp [intOf]; omega
    · obtain rfl : i = n := by omega
      have hd : decide ((i : Int) < i) = false := decide_eq_false (by omega)
      obtain rfl : v = true := by rw [HV5.out]; exact HR.out.2
      go_wp2_with fail
      go_ret
      exact ⟨rfl, HBr.out⟩
end Go.Proofs.Ytolnpimnoajcaaa

/- The reference's report: Choices, Names. -/
namespace Go.Proofs.Ytolnpimnoajcaaa
open Go.RowKit Go.Sort
open Evt

namespace Evt
theorem putAll_len : ∀ (l ss : List (List UInt8)), (putAll ss l).length ≤ ss.length + l.length
  | [], ss => by simp [putAll]
  | s :: l, ss => by
    have h1 := putAll_len l (putF ss s)
    have h2 := put_len ss s
    unfold putAll at h1 ⊢
    rw [List.foldl_cons, List.length_cons]
    omega
theorem putAll_append (ss l m : List (List UInt8)) : putAll ss (l ++ m) = putAll (putAll ss l) m := by
  unfold putAll
  rw [List.foldl_append]
theorem putAll_snoc {ss l : List (List UInt8)} {j : Nat} (hj : j < l.length) : putAll ss (l.take (j + 1)) = putF (putAll ss (l.take j)) l[j] := by
  rw [← List.take_append_getElem hj, putAll_append]
  rfl
theorem namesL_take {l : List Ev} {i : Nat} (hi : i < l.length) : namesL (l.take (i + 1)) = namesL (l.take i) ++ namesE l[i] := by
  unfold namesL
  rw [← List.take_append_getElem hi, List.flatMap_append]
  simp
theorem namesR_put {r : Rp} (h : validR r = true) : namesR r = putAll [] (namesL r.opts) := by
  unfold namesR
  rw [if_pos h, putAll_srt]
end Evt
/-- What holds of the list so far. -/
structure SoFar (w : World) (v : Value) (cur : List (List UInt8)) : Prop where
  ex : ∃ ao c, v = .slice ao cur.length c ∧ cur.length ≤ c ∧ IsS w v cur
theorem SoFar.below {w w' : World} {v : Value} {cur : List (List UInt8)} (h : SoFar w v cur) (hb : Below w.heap.size w w') : SoFar w' v cur := by
  obtain ⟨ao, c, h1, h2, h3⟩ := h.ex
  exact ⟨ao, c, h1, h2, h3.below hb⟩
theorem SoFar.nil (w : World) : SoFar w (.slice none 0 0) [] := ⟨none, 0, rfl, Nat.le_refl _, IsS.owns (OwnS.nil 0 _)⟩
set_option maxRecDepth 100000 in
set_option maxHeartbeats 4000000 in
theorem refChoices_any (r : Rp) (oo : Option Addr) (oc : Nat) (hc1 : r.opts.length ≤ oc) (hc2 : oc ≤ 9223372036854775807) (hs : ∀ e ∈ r.opts, Shrt e) (W : World) (hi : IsL 14 ElEv W oo r.opts) :
    Calls Try.prog 35 #[.agg #[.slice oo r.opts.length oc, .bool r.doubt]] W fun e w' => e = .returned (.int .i64 (choices r)) ∧ Below W.heap.size W w' := by
  obtain ⟨l, db⟩ := r
  dsimp only at hc1 hi hs ⊢
  obtain ⟨V, HV⟩ : ∃ w, Hid (w = W.alloc (.cells #[.slice oo l.length oc, .bool db] 40)) := ⟨_, Lib.hid rfl⟩
  obtain ⟨N, HN⟩ : ∃ N, Hid (N = W.heap.size) := ⟨_, Lib.hid rfl⟩
  have HB : Hid (Below W.heap.size W V) := Lib.hid (by rw [HV.out]; exact (Below.refl _ _).alloc (Nat.le_refl _) _)
  have HW : Hid (Whole V N 40 #[.slice oo l.length oc, .bool db]) := Lib.hid (by rw [HV.out, HN.out]; exact Whole.new _ _ _)
  have HC := Lib.hid (refRValid_any ⟨l, db⟩ oo oc hc1 hc2 hs V (hi.below stEv HB.out))
  obtain ⟨v, Hv⟩ : ∃ v, Hid (v = validR ⟨l, db⟩) := ⟨_, Lib.hid rfl⟩
  have HL : Hid (v = true → l.length ≤ 4) := Lib.hid (fun h => (validR_len (r := ⟨l, db⟩) (by rw [← Hv.out]; exact h)).2)
  obtain ⟨z, Hz⟩ : ∃ z, Hid (z = choices ⟨l, db⟩) := ⟨_, Lib.hid rfl⟩
  rw [← Hz.out]
  rw [← Hv.out] at HC
  have HZ : Hid (z = if v then (if db then (l.length : Int) + 1 else l.length) else 0) := Lib.hid (by rw [Hz.out, Hv.out]; rfl)
  obtain ⟨n, Hn⟩ : ∃ n, Hid (n = l.length) := ⟨_, Lib.hid rfl⟩
  dsimp only at HC
  rw [← Hn.out] at HC HL HZ HV HW ⊢
  have b0 : V.cell? ⟨N, 0, none⟩ = some (.slice oo n oc) := HW.out.cell 0
  have b1 : V.cell? ⟨N, 1, none⟩ = some (.bool db) := HW.out.cell 1
  clear hi hc1 hs Hv Hz
  go_enter Try.func35, Try.ntmps35
  go_upto_region 1 with fail
  rw [← HV.out, ← HN.out]
  go_wp2_with fail
  refine HC.out.mono ?_
  rintro e w1 ⟨rfl, hb⟩
  have HB1 := Lib.hid (below_step HB.out hb)
  have c0 : w1.cell? ⟨N, 0, none⟩ = some (.slice oo n oc) := (whole_belowM HW.out hb).cell 0
  have c1 : w1.cell? ⟨N, 1, none⟩ = some (.bool db) := (whole_belowM HW.out hb).cell 1
  clear hb b0 b1
  cases v with
  | false =>
    obtain rfl : z = 0 := by rw [HZ.out]; rfl
    go_wp2_with fail
    go_ret
    exact ⟨rfl, HB1.out⟩
  | true =>
  have hn4 := HL.out rfl
  cases db with
  | true =>
    obtain rfl : z = (n : Int) + 1 := by rw [HZ.out]; rfl
    go_wp2_with fail
    go_ret
    exact ⟨rfl, HB1.out⟩
  | false =>
    obtain rfl : z = (n : Int) := by rw [HZ.out]; rfl
    go_wp2_with fail
    go_ret
    exact ⟨rfl, HB1.out⟩
set_option maxRecDepth 100000 in
set_option maxHeartbeats 8000000 in
theorem refNames_any (r : Rp) (oo : Option Addr) (oc : Nat) (hc1 : r.opts.length ≤ oc) (hc2 : oc ≤ 9223372036854775807) (hs : ∀ e ∈ r.opts, Shrt e) (W : World) (hi : IsL 14 ElEv W oo r.opts) :
    Calls Try.prog 29 #[.agg #[.slice oo r.opts.length oc, .bool r.doubt]] W fun e w' => ∃ v, e = .returned v ∧ IsS w' v (namesR r) ∧ Below W.heap.size W w' := by
  obtain ⟨l, db⟩ := r
  dsimp only at hc1 hi hs ⊢
  obtain ⟨V, HV⟩ : ∃ w, Hid (w = W.alloc (.cells #[.slice oo l.length oc, .bool db] 40)) := ⟨_, Lib.hid rfl⟩
  obtain ⟨N, HN⟩ : ∃ N, Hid (N = W.heap.size) := ⟨_, Lib.hid rfl⟩
  have HB : Hid (Below W.heap.size W V) := Lib.hid (by rw [HV.out]; exact (Below.refl _ _).alloc (Nat.le_refl _) _)
  have HW : Hid (Whole V N 40 #[.slice oo l.length oc, .bool db]) := Lib.hid (by rw [HV.out, HN.out]; exact Whole.new _ _ _)
  have HC := Lib.hid (refRValid_any ⟨l, db⟩ oo oc hc1 hc2 hs V (hi.below stEv HB.out))
  have HI := Lib.hid hi
  have HSh := Lib.hid hs
  have HSp := Lib.hid ev_size
  obtain ⟨v, Hv⟩ : ∃ v, Hid (v = validR ⟨l, db⟩) := ⟨_, Lib.hid rfl⟩
  have HL : Hid (v = true → l.length ≤ 4) := Lib.hid (fun h => (validR_len (r := ⟨l, db⟩) (by rw [← Hv.out]; exact h)).2)
  obtain ⟨NR, HNR⟩ : ∃ z, Hid (z = namesR ⟨l, db⟩) := ⟨_, Lib.hid rfl⟩
  rw [← HNR.out]
  have HNf : Hid (v = false → NR = []) := Lib.hid (fun h => by rw [HNR.out]; unfold namesR; rw [if_neg (by rw [← Hv.out, h]; simp)])
  have HNt : Hid (v = true → NR = putAll [] (namesL l)) := Lib.hid (fun h => by rw [HNR.out]; exact namesR_put (r := ⟨l, db⟩) (by rw [← Hv.out]; exact h))
  rw [← Hv.out] at HC
  obtain ⟨n, Hn⟩ : ∃ n, Hid (n = l.length) := ⟨_, Lib.hid rfl⟩
  dsimp only at HC
  rw [← Hn.out] at HC HL HV HW hc1 ⊢
  have b0 : V.cell? ⟨N, 0, none⟩ = some (.slice oo n oc) := HW.out.cell 0
  have b1 : V.cell? ⟨N, 1, none⟩ = some (.bool db) := HW.out.cell 1
  clear hi hs Hv HNR
  go_enter Try.func29, Try.ntmps29
  go_upto_region 1 with fail
  rw [← HV.out, ← HN.out]
  go_wp2_with fail
  refine HC.out.mono ?_
  rintro e w1 ⟨rfl, hb⟩
  have HB1 := Lib.hid (below_step HB.out hb)
  have HW1 := Lib.hid (whole_belowM HW.out hb)
  clear hb b0 b1
  cases v with
  | false =>
    obtain rfl := HNf.out rfl
    go_wp2_with fail
    go_ret
    exact ⟨_, rfl, IsS.owns (OwnS.nil 0 _), HB1.out⟩
  | true =>
  have hn4 := HL.out rfl
  have HNR := Lib.hid (HNt.out rfl)
  clear HC HNf HNt HL
  go_wp2_with fail
  go_loopw [3, 4] (fun sv i wr => ∃ (k : Nat) (lv : Value), k ≤ n ∧ sv = lv ∧ i = .int .i64 k ∧ Hid (Below w1.heap.size w1 wr ∧ SoFar wr lv (putAll [] (namesL (l.take k))))) (fun _ i _ => n - (intOf i).toNat)
  case atStart => exact ⟨0, _, Nat.zero_le _, rfl, by go_num, Lib.hid ⟨Below.refl _ _, SoFar.nil _⟩⟩
  case round =>
    obtain ⟨k, lv, hk, hlv, rfl, HR⟩ := hrel
    replace hlv := hlv.symm
    subst hlv
    have HBr := Lib.hid (below_step HB1.out HR.out.1)
    have b0 : wr.cell? ⟨N, 0, none⟩ = some (.slice oo n oc) := (whole_belowM HW1.out HR.out.1).cell 0
    by_cases hkn : k < n
    · have hd : decide ((k : Int) < n) = true := decide_eq_true (by omega)
      have hb0 : (0 : Int) ≤ k := by omega
      have hb1 : (k : Int) < n := by omega
      have hkl : k < l.length := by rw [← Hn.out]; exact hkn
      obtain ⟨bk, off, cs, rfl, hbk, hrg, rfl, hsz⟩ := HI.out.at hkl
      obtain ⟨y, Hy⟩ : ∃ m, Hid (m = l[k]) := ⟨_, Lib.hid rfl⟩
      rw [← Hy.out] at hrg hsz
      have HRg := Lib.hid (rangeB hrg hbk HBr.out)
      have HNm := Lib.hid (refEvNames_any y hsz (by rw [Hy.out]; exact HSh.out _ (List.getElem_mem hkl)) wr)
      obtain ⟨ss, Hss⟩ : ∃ ss, Hid (ss = namesE y) := ⟨_, Lib.hid rfl⟩
      rw [← Hss.out] at HNm
      have hm2 : ss.length ≤ 2 := by rw [Hss.out]; exact namesE_len y
      obtain ⟨base, Hbase⟩ : ∃ b, Hid (b = putAll [] (namesL (l.take k))) := ⟨_, Lib.hid rfl⟩
      have HSo : Hid (SoFar wr lv base) := Lib.hid (by rw [Hbase.out]; exact HR.out.2)
      have hbl : base.length ≤ 8 := by
        rw [Hbase.out]
        have h1 := putAll_len (namesL (l.take k)) []
        have h2 := namesL_len (l.take k)
        rw [List.length_take] at h2
        have : ([] : List (List UInt8)).length = 0 := rfl
        omega
      have HNx : Hid (putAll base ss = putAll [] (namesL (l.take (k + 1)))) := Lib.hid (by rw [Hbase.out, namesL_take hkl, putAll_append, Hss.out, Hy.out])
      clear hrg hsz
      go_wp2_with (first
        | (with_reducible show wpList _ _ _ (Oper.mk _ (Op.load 52 _) _ _ _ _ :: _) _ _; refine wpList_load_mid rfl _ _ rfl bk (off + k * 14) rfl _ _ HRg.out Try.underlying52 rfl (HSp.out.trans rfl) ?_))
      refine HNm.out.mono ?_
      rintro e w2 ⟨nv, rfl, hS, hb⟩
      have HB2 := Lib.hid (below_step HR.out.1 hb)
      have HS2 := Lib.hid hS
      have HSo2 := Lib.hid (HSo.out.below hb)
      obtain ⟨no, nc, rfl, -⟩ := hS
      obtain ⟨m, Hm⟩ : ∃ m, Hid (m = ss.length) := ⟨_, Lib.hid rfl⟩
      rw [← Hm.out] at HS2 hm2 ⊢
      clear hb b0
      obtain ⟨wo, rfl⟩ : ∃ y, y = wr := ⟨_, rfl⟩
      go_wp2_with fail
      go_loopw [3, 6] (fun sv i ws => ∃ (j : Nat) (uv : Value), j ≤ m ∧ sv = uv ∧ i = .int .i64 j ∧ Hid (Below w2.heap.size w2 ws ∧ SoFar ws uv (putAll base (ss.take j)))) (fun _ i _ => m - (intOf i).toNat)
      case atStart => exact ⟨0, _, Nat.zero_le _, rfl, by go_num, Lib.hid ⟨Below.refl _ _, HSo2.out⟩⟩
      case round =>
        obtain ⟨j, uv, hj, huv, rfl, HJ⟩ := hrel
        replace huv := huv.symm
        subst huv
        by_cases hjm : j < m
        · have hd2 : decide ((j : Int) < m) = true := decide_eq_true (by omega)
          have hj0 : (0 : Int) ≤ j := by omega
          have hj1 : (j : Int) < m := by omega
          have hjs : j < ss.length := by rw [← Hm.out]; exact hjm
          obtain ⟨b, hno, hb, cs⟩ := isS_at HS2.out hjs
          have cs := (cellB HJ.out.1 hb).trans cs
          obtain ⟨s, Hs⟩ : ∃ s, Hid (s = ss[j]) := ⟨_, Lib.hid rfl⟩
          rw [← Hs.out] at cs
          subst hno
          obtain ⟨sv, Hsv⟩ : ∃ y : ByteArray, Hid (y = ⟨s.toArray⟩) := ⟨_, Lib.hid rfl⟩
          rw [← Hsv.out] at cs
          have Hbt : Hid (bts sv = s) := Lib.hid (by rw [Hsv.out]; unfold bts; simp)
          obtain ⟨cur, Hcur⟩ : ∃ b, Hid (b = putAll base (ss.take j)) := ⟨_, Lib.hid rfl⟩
          have hso := HJ.out.2
          rw [← Hcur.out] at hso
          obtain ⟨ao, c, rfl, hlc, hS3⟩ := hso.ex
          have hcl : cur.length ≤ 1000000 := by
            rw [Hcur.out]
            have h1 := putAll_len (ss.take j) base
            rw [List.length_take] at h1
            omega
          have HPt := Lib.hid (put_any ao cur c hcl hlc sv wr hS3)
          have HNj : Hid (putF cur (bts sv) = putAll base (ss.take (j + 1))) := Lib.hid (by rw [putAll_snoc hjs, Hcur.out, Hbt.out, Hs.out])
          rw [HNj.out] at HPt
          clear hso hS3
          go_wp2_with fail
          refine HPt.out.mono ?_
          rintro e w3 ⟨bo, d, rfl, hd3, hS4, hb3⟩
          have HB3 := Lib.hid (below_step HJ.out.1 hb3)
          have HSo3 : Hid (SoFar w3 (.slice bo (putAll base (ss.take (j + 1))).length d) (putAll base (ss.take (j + 1)))) := Lib.hid ⟨bo, d, rfl, hd3, hS4⟩
          clear hd3 hS4 hb3 cs
          go_wp2_with fail
          go_round
          case rel => exact ⟨j + 1, _, by omega, rfl, by go_num, Lib.hid ⟨HB3.out, HSo3.out⟩⟩
          case measure => simp [intOf]; omega
        · obtain rfl : j = m := by omega
          have hd2 : decide ((j : Int) < j) = false := decide_eq_false (by omega)
          have HEnd : Hid (SoFar wr uv (putAll [] (namesL (l.take (k + 1))))) := Lib.hid (by
            have := HJ.out.2
            rw [Hm.out, List.take_length, HNx.out] at this
            exact this)
          have HBe := Lib.hid (below_step HB2.out HJ.out.1)
          go_wp2_with fail
          go_round
          case rel => exact ⟨k + 1, _, by omega, rfl, by go_num, Lib.hid ⟨HBe.out, HEnd.out⟩⟩
          case measure => simp [intOf]; omega
    · obtain rfl : k = n := by omega
      have hd : decide ((k : Int) < k) = false := decide_eq_false (by omega)
      have HEnd : Hid (IsS wr lv NR) := Lib.hid (by
        have h1 := HR.out.2
        rw [Hn.out, List.take_length] at h1
        rw [HNR.out]
        obtain ⟨ao, c, h2, h3, h4⟩ := h1.ex
        exact h4)
      go_wp2_with fail
      go_ret
      exact ⟨_, rfl, HEnd.out, HBr.out⟩
end Go.Proofs.Ytolnpimnoajcaaa

/- Few of events and of reports: true only if all strings are of a moderate size. -/
namespace Go.Proofs.Ytolnpimnoajcaaa
open Go.RowKit
open Evt Lnk

set_option maxRecDepth 100000 in
set_option maxHeartbeats 4000000 in
theorem shortS_any (e : Ev) (W : World) :
    Calls Try.prog 50 #[.agg (evC e).toArray] W (YN (Shrt e) W) := by
  obtain ⟨op, day, part, kind, into, slot, key, value, k0, k1, c0, c1, d0, d1⟩ := e
  unfold evC
  obtain ⟨V, HV⟩ : ∃ w, Hid (w = W.alloc (.cells #[.int .i64 op, .int .i64 day, .string part, .string kind, .string into, .string slot, .string key, .string value, .int .i64 k0, .int .i64 k1, .int .i64 c0, .int .i64 c1, .int .i64 d0, .int .i64 d1] 52)) := ⟨_, Lib.hid rfl⟩
  have HB : Hid (Below W.heap.size W V) := Lib.hid (by rw [HV.out]; exact (Below.refl _ _).alloc (Nat.le_refl _) _)
  obtain ⟨y1, e1⟩ : ∃ b, decide ((part.size : Int) ≤ 300) = b := ⟨_, rfl⟩
  obtain ⟨y2, e2⟩ : ∃ b, decide ((kind.size : Int) ≤ 300) = b := ⟨_, rfl⟩
  obtain ⟨y3, e3⟩ : ∃ b, decide ((into.size : Int) ≤ 300) = b := ⟨_, rfl⟩
  obtain ⟨y4, e4⟩ : ∃ b, decide ((slot.size : Int) ≤ 300) = b := ⟨_, rfl⟩
  obtain ⟨y5, e5⟩ : ∃ b, decide ((key.size : Int) ≤ 300) = b := ⟨_, rfl⟩
  obtain ⟨y6, e6⟩ : ∃ b, decide ((value.size : Int) ≤ 300) = b := ⟨_, rfl⟩
  have HS : Hid (y1 = true → y2 = true → y3 = true → y4 = true → y5 = true → y6 = true → Shrt ⟨op, day, part, kind, into, slot, key, value, k0, k1, c0, c1, d0, d1⟩) := Lib.hid (fun h1 h2 h3 h4 h5 h6 => by
    rw [← e1] at h1; rw [← e2] at h2; rw [← e3] at h3; rw [← e4] at h4; rw [← e5] at h5; rw [← e6] at h6
    have h1 := of_decide_eq_true h1; have h2 := of_decide_eq_true h2; have h3 := of_decide_eq_true h3; have h4 := of_decide_eq_true h4; have h5 := of_decide_eq_true h5; have h6 := of_decide_eq_true h6
    refine ⟨?_, ?_, ?_, ?_, ?_, ?_⟩ <;> (dsimp only; omega))
  have hc : y1 = false ∨ (y1 = true ∧ y2 = false) ∨ (y1 = true ∧ y2 = true ∧ y3 = false) ∨ (y1 = true ∧ y2 = true ∧ y3 = true ∧ y4 = false) ∨ (y1 = true ∧ y2 = true ∧ y3 = true ∧ y4 = true ∧ y5 = false) ∨ (y1 = true ∧ y2 = true ∧ y3 = true ∧ y4 = true ∧ y5 = true) := by
    clear e1 e2 e3 e4 e5 e6 HS
    cases y1 <;> cases y2 <;> cases y3 <;> cases y4 <;> cases y5 <;> simp
  go_enter Try.func50, Try.ntmps50
  rcases hc with rfl | ⟨rfl, rfl⟩ | ⟨rfl, rfl, rfl⟩ | ⟨rfl, rfl, rfl, rfl⟩ | ⟨rfl, rfl, rfl, rfl, rfl⟩ | ⟨rfl, rfl, rfl, rfl, rfl⟩
  all_goals
    go_wp2_with fail
    rw [← HV.out]
    go_ret
    first
      | exact ⟨false, rfl, fun h => (by cases h), HB.out⟩
      | exact ⟨y6, rfl, fun h => HS.out trivial trivial trivial trivial trivial h, HB.out⟩
theorem all_snocE {l : List Ev} {k : Nat} {P : Ev → Prop} (hk : k < l.length) (h : ∀ e ∈ l.take k, P e) (h2 : P l[k]) : ∀ e ∈ l.take (k + 1), P e := fun e he => by
  rw [← List.take_append_getElem hk, List.mem_append, List.mem_singleton] at he
  rcases he with he | rfl
  · exact h e he
  · exact h2
theorem all_snocR {l : List Rp} {k : Nat} {P : Rp → Prop} (hk : k < l.length) (h : ∀ e ∈ l.take k, P e) (h2 : P l[k]) : ∀ e ∈ l.take (k + 1), P e := fun e he => by
  rw [← List.take_append_getElem hk, List.mem_append, List.mem_singleton] at he
  rcases he with he | rfl
  · exact h e he
  · exact h2
set_option maxRecDepth 100000 in
set_option maxHeartbeats 4000000 in
theorem few09S_any (ao : Option Addr) (l : List Ev) (cap : Nat) (hl : l.length ≤ 9223372036854775807) (W : World) (hi : IsL 14 ElEv W ao l) :
    Calls Try.prog 38 #[.slice ao l.length cap, .int .i64 6] W (YN (l.length ≤ 6 ∧ ∀ e ∈ l, Shrt e) W) := by
  have HI := Lib.hid hi
  have HSp := Lib.hid ev_size
  have HSh := Lib.hid (@shortS_any)
  clear hi
  obtain ⟨n, Hn⟩ : ∃ n, Hid (n = l.length) := ⟨_, Lib.hid rfl⟩
  obtain ⟨Q, HQ⟩ : ∃ q : Prop, Hid (q = (l.length ≤ 6 ∧ ∀ e ∈ l, Shrt e)) := ⟨_, Lib.hid rfl⟩
  rw [← HQ.out, ← Hn.out]
  rw [← Hn.out] at hl
  obtain ⟨yn, en⟩ : ∃ b, decide ((n : Int) ≤ 6) = b := ⟨_, rfl⟩
  go_enter Try.func38, Try.ntmps38
  go_wp2_with fail
  go_loopw [5] (fun i wr => ∃ k : Nat, k ≤ n ∧ i = .int .i64 k ∧ Hid (Below W.heap.size W wr ∧ ∀ e ∈ l.take k, Shrt e)) (fun i _ => n - (intOf i).toNat)
  case atStart => exact ⟨0, Nat.zero_le _, by go_num, Lib.hid ⟨Below.refl _ _, by simp⟩⟩
  case round =>
    obtain ⟨k, hk, rfl, HR⟩ := hrel
    by_cases hkn : k < n
    · have hd : decide ((k : Int) < n) = true := decide_eq_true (by omega)
      have hb0 : (0 : Int) ≤ k := by omega
      have hb1 : (k : Int) < n := by omega
      have hkl : k < l.length := by rw [← Hn.out]; exact hkn
      obtain ⟨y6, e6⟩ : ∃ b, decide ((k : Int) ≤ 6) = b := ⟨_, rfl⟩
      obtain ⟨bk, off, cs, rfl, hbk, hrg, rfl, hsz⟩ := HI.out.at hkl
      obtain ⟨y, Hy⟩ : ∃ m, Hid (m = l[k]) := ⟨_, Lib.hid rfl⟩
      rw [← Hy.out] at hrg
      have HRg := Lib.hid (rangeB hrg hbk HR.out.1)
      have HS := Lib.hid (HSh.out y wr)
      clear hrg hsz hbk
      cases y6 with
      | false =>
        have hyf : yn = false := by rw [← en]; exact decide_eq_false (by have := of_decide_eq_false e6; omega)
        subst hyf
        go_wp2_with fail
        go_ret
        exact ⟨false, rfl, fun h => (by cases h), HR.out.1⟩
      | true =>
        go_wp2_with (first
          | (with_reducible show wpList _ _ _ (Oper.mk _ (Op.load 52 _) _ _ _ _ :: _) _ _; refine wpList_load_mid rfl _ _ rfl bk (off + k * 14) rfl _ _ HRg.out Try.underlying52 rfl (HSp.out.trans rfl) ?_))
        refine HS.out.mono ?_
        rintro e w1 ⟨b, rfl, hq, hb⟩
        have HB1 := Lib.hid (below_step HR.out.1 hb)
        have HQ1 := Lib.hid hq
        clear hb hq
        cases b with
        | false =>
          go_wp2_with fail
          go_ret
          exact ⟨false, rfl, fun h => (by cases h), HB1.out⟩
        | true =>
          have HNx : Hid (∀ e ∈ l.take (k + 1), Shrt e) := Lib.hid (all_snocE hkl HR.out.2 (by rw [← Hy.out]; exact HQ1.out rfl))
          go_wp2_with fail
          go_round
          case rel => exact ⟨k + 1, by omega, by go_num, Lib.hid ⟨HB1.out, HNx.out⟩⟩
          case measure => simp [intOf]; omega
    · obtain rfl : k = n := by omega
      have hd : decide ((k : Int) < k) = false := decide_eq_false (by omega)
      have HE : Hid (yn = true → Q) := Lib.hid (fun h => by
        rw [HQ.out]
        rw [← en] at h
        have h := of_decide_eq_true h
        have h2 := HR.out.2
        rw [Hn.out, List.take_length] at h2
        exact ⟨by rw [← Hn.out]; omega, h2⟩)
      go_wp2_with fail
      go_ret
      exact ⟨yn, rfl, HE.out, HR.out.1⟩

set_option maxRecDepth 100000 in
set_option maxHeartbeats 4000000 in
theorem few13S_any (M : Nat) (ao : Option Addr) (l : List Rp) (cap : Nat) (hl : l.length ≤ 9223372036854775807) (W : World) (hi : IsL 2 ElRp W ao l) :
    Calls Try.prog 25 #[.slice ao l.length cap, .int .i64 M] W (YN (l.length ≤ M ∧ ∀ r ∈ l, ∀ e ∈ r.opts, Shrt e) W) := by
  have HI := Lib.hid hi
  have HSh := Lib.hid (@few09S_any)
  clear hi
  obtain ⟨n, Hn⟩ : ∃ n, Hid (n = l.length) := ⟨_, Lib.hid rfl⟩
  obtain ⟨Q, HQ⟩ : ∃ q : Prop, Hid (q = (l.length ≤ M ∧ ∀ r ∈ l, ∀ e ∈ r.opts, Shrt e)) := ⟨_, Lib.hid rfl⟩
  rw [← HQ.out, ← Hn.out]
  rw [← Hn.out] at hl
  obtain ⟨yn, en⟩ : ∃ b, decide ((n : Int) ≤ M) = b := ⟨_, rfl⟩
  have en2 : decide (n ≤ M) = yn := by rw [← en]; congr 1; exact propext (by omega)
  have HY : Hid (yn = true → n ≤ M) := Lib.hid (fun h => by rw [← en] at h; have := of_decide_eq_true h; omega)
  go_enter Try.func25, Try.ntmps25
  go_wp2_with fail
  go_loopw [5] (fun i wr => ∃ k : Nat, k ≤ n ∧ i = .int .i64 k ∧ Hid (Below W.heap.size W wr ∧ ∀ r ∈ l.take k, ∀ e ∈ r.opts, Shrt e)) (fun i _ => n - (intOf i).toNat)
  case atStart => exact ⟨0, Nat.zero_le _, by go_num, Lib.hid ⟨Below.refl _ _, by simp⟩⟩
  case round =>
    obtain ⟨k, hk, rfl, HR⟩ := hrel
    by_cases hkn : k < n
    · have hd : decide ((k : Int) < n) = true := decide_eq_true (by omega)
      have hb0 : (0 : Int) ≤ k := by omega
      have hb1 : (k : Int) < n := by omega
      have hkl : k < l.length := by rw [← Hn.out]; exact hkn
      obtain ⟨bk, off, cs, rfl, hbk, hrg, oo, oc, rfl, hel, hoc1, hoc2⟩ := HI.out.at hkl
      obtain ⟨y, Hy⟩ : ∃ m, Hid (m = l[k]) := ⟨_, Lib.hid rfl⟩
      rw [← Hy.out] at hrg hel hoc1
      have hrg := rangeB hrg hbk HR.out.1
      have c0 := hrg 0 _ rfl
      rw [Nat.add_zero] at c0
      have HS := Lib.hid (HSh.out oo y.opts oc (by omega) wr (hel.below stEv HR.out.1))
      obtain ⟨on, Hon⟩ : ∃ m, Hid (m = y.opts.length) := ⟨_, Lib.hid rfl⟩
      obtain ⟨Qy, HQy⟩ : ∃ q : Prop, Hid (q = (y.opts.length ≤ 6 ∧ ∀ e ∈ y.opts, Shrt e)) := ⟨_, Lib.hid rfl⟩
      rw [← HQy.out, ← Hon.out] at HS
      rw [← Hon.out] at c0
      clear hrg hel hoc1
      cases yn with
      | false =>
        go_wp2_with fail
        go_ret
        exact ⟨false, rfl, fun h => (by cases h), HR.out.1⟩
      | true =>
        go_wp2_with fail
        refine HS.out.mono ?_
        rintro e w1 ⟨b, rfl, hq, hb⟩
        have HB1 := Lib.hid (below_step HR.out.1 hb)
        have HQ1 := Lib.hid hq
        clear hb hq
        cases b with
        | false =>
          go_wp2_with fail
          go_ret
          exact ⟨false, rfl, fun h => (by cases h), HB1.out⟩
        | true =>
          have HNx : Hid (∀ r ∈ l.take (k + 1), ∀ e ∈ r.opts, Shrt e) := Lib.hid (all_snocR hkl HR.out.2 (by
            have := HQ1.out rfl
            rw [HQy.out] at this
            rw [← Hy.out]; exact this.2))
          go_wp2_with fail
          go_round
          case rel => exact ⟨k + 1, by omega, by go_num, Lib.hid ⟨HB1.out, HNx.out⟩⟩
          case measure => simp [intOf]; omega
    · obtain rfl : k = n := by omega
      have hd : decide ((k : Int) < k) = false := decide_eq_false (by omega)
      have HE : Hid (yn = true → Q) := Lib.hid (fun h => by
        rw [HQ.out]
        have h2 := HR.out.2
        rw [Hn.out, List.take_length] at h2
        exact ⟨by rw [← Hn.out]; exact HY.out h, h2⟩)
      go_wp2_with fail
      go_ret
      exact ⟨yn, rfl, HE.out, HR.out.1⟩
end Go.Proofs.Ytolnpimnoajcaaa
