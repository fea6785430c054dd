/- append(l, a, b) in a drawn region, where the elements come from calls that make memory: what each operation leaves. ia: the append; ib: the slice that is appended; ic: what takes the result. -/
import Derived.Test.YtfkejnnbfneieaaGreatDoorRunW
import Derived.Test.YtfkejnnbfneieaaGreatDoorIsS
namespace Go.Proofs.YtfkejnnbfneieaaGreatDoor
open Go.RowKit
open Evt

def apK (ia ib ic : Nat) : List EKey := [([], []), ([ia], []), ([ia], []), ([ia], [ib]), ([], [ia]), ([], [ia, ic]), ([], [])]
def apP (B : Nat) (W : World) (R : World → Prop) (v0 : Value) (ss news : List (List UInt8)) (ia ib ic : Nat) : Nat → (Nat → Value) → World → Prop
  | 0, _, w => Below B W w ∧ B ≤ w.heap.size
  | 1, _, w => Below W.heap.size W w
  | 2, _, w => OwnS B w v0 ss
  | 3, x, w => ∃ g, x ib = .slice (some ⟨g, 0, none⟩) news.length news.length ∧ Whole w g 9 (news.map encStr).toArray
  | 4, x, w => OwnS B w (x ia) (ss ++ news)
  | 5, x, _ => x ic = x ia
  | 6, _, w => R w
  | _, _, _ => True
section
variable {B : Nat} {R : World → Prop} {W w w' : World} {v0 v : Value} {ss news : List (List UInt8)} {ia ib ic : Nat} {e : Ent} {ops : Array Oper}
theorem below_low {W w w' : World} {B : Nat} (h : Below B W w) (hB : B ≤ w.heap.size) (hb : Below w.heap.size w w') : Below B W w' := h.trans (hb.mono hB)
theorem apP_below (hR : ∀ w w', R w → Below w.heap.size w w' → R w') : ∀ j x w w', apP B W R v0 ss news ia ib ic j x w → Below w.heap.size w w' → apP B W R v0 ss news ia ib ic j x w'
  | 0, _, _, _, h, hb => ⟨below_low h.1 h.2 hb, Nat.le_trans h.2 hb.size⟩
  | 1, _, _, _, h, hb => below_step h hb
  | 2, _, _, _, h, hb => OwnS.below h hb
  | 3, _, _, _, h, hb => by obtain ⟨g, h1, h2⟩ := h; exact ⟨g, h1, whole_belowM h2 hb⟩
  | 4, _, _, _, h, hb => OwnS.below h hb
  | 5, _, _, _, h, _ => h
  | 6, _, _, _, h, hb => hR _ _ h hb
  | _ + 7, _, _, _, _, _ => trivial
theorem apP_cg (j : Nat) (kl nd : List Nat) (hk : (apK ia ib ic)[j]? = some (kl, nd)) (x y : Nat → Value) (w : World) (h : ∀ i ∈ nd, x i = y i) (h1 : apP B W R v0 ss news ia ib ic j x w) : apP B W R v0 ss news ia ib ic j y w := by
  have hj : j < 7 := (List.getElem?_eq_some_iff.1 hk).1
  have hj : j = 0 ∨ j = 1 ∨ j = 2 ∨ j = 3 ∨ j = 4 ∨ j = 5 ∨ j = 6 := by omega
  rcases hj with rfl | rfl | rfl | rfl | rfl | rfl | rfl <;> cases hk
  · exact h1
  · exact h1
  · exact h1
  · have e2 := h ib (by simp); simpa only [apP, e2] using h1
  · have e7 := h ia (by simp); simpa only [apP, e7] using h1
  · have e7 := h ia (by simp); have e8 := h ic (by simp); simpa only [apP, e7, e8] using h1
  · exact h1
theorem apP_zero (hR : ∀ w w', R w → Below w.heap.size w w' → R w') (hr : R W) (hB : B ≤ W.heap.size) (ho : OwnS B W v0 ss) (j : Nat) (kl : List Nat) (hk : (apK ia ib ic)[j]? = some (kl, [])) : apP B W R v0 ss news ia ib ic j (fun _ => undef) W.drew := by
  have hj : j < 7 := (List.getElem?_eq_some_iff.1 hk).1
  have hj : j = 0 ∨ j = 1 ∨ j = 2 ∨ j = 3 ∨ j = 4 ∨ j = 5 ∨ j = 6 := by omega
  rcases hj with rfl | rfl | rfl | rfl | rfl | rfl | rfl <;> cases hk
  · exact ⟨((Below.refl _ _).mono hB).drew, hB⟩
  · exact (Below.refl _ _).drew
  · exact OwnS.below ho (Below.refl _ _).drew
  · exact hR _ _ hr (Below.refl _ _).drew
theorem upd_valA {e : Ent} {i : Nat} {v : Value} : valOf (entUpd e i v) i = v := valOf_some (entUpd_same ..)
theorem ap_new_build (hab : ia ≠ ib) (hcb : ic ≠ ib) (g : Nat) (hg : Whole w' g 9 (news.map encStr).toArray) : ∀ (j : Nat) (kl nd : List Nat), (apK ia ib ic)[j]? = some (kl, nd) → ib ∈ nd → ib ∉ kl → (∀ i ∈ kl, e i = none) → (∀ i ∈ nd, i ≠ ib → e i ≠ none ∧ Want ops e i) → apP B W R v0 ss news ia ib ic j (valOf (entUpd e ib (.slice (some ⟨g, 0, none⟩) news.length news.length))) w' := by
  intro j kl nd hk hi _ _ _
  have hj : j < 7 := (List.getElem?_eq_some_iff.1 hk).1
  have hj : j = 0 ∨ j = 1 ∨ j = 2 ∨ j = 3 ∨ j = 4 ∨ j = 5 ∨ j = 6 := by omega
  rcases hj with rfl | rfl | rfl | rfl | rfl | rfl | rfl <;> cases hk
  · cases hi
  · cases hi
  · cases hi
  · exact ⟨g, upd_valA, hg⟩
  · exact absurd (List.mem_singleton.1 hi).symm hab
  · simp only [List.mem_cons, List.not_mem_nil, or_false] at hi
    rcases hi with h | h
    · exact absurd h.symm hab
    · exact absurd h.symm hcb
  · cases hi
theorem ap_leaves_app (hR2 : ∀ w w', R w → OwnS B w v0 ss → w.grownBy w' v0.ownBlock → R w') (hac : ia ≠ ic) (hab : ia ≠ ib) (hc : e ic = none) (hB : Below B W w ∧ B ≤ w.heap.size) (ho : OwnS B w v0 ss) (hn : OwnS B w' v (ss ++ news)) (hg : w.grownBy w' v0.ownBlock) : LeavesE ops (apK ia ib ic) (apP B W R v0 ss news ia ib ic) e ia w v w' := by
  refine ⟨fun j kl nd hk hi _ _ hd => ?_, fun j kl nd hk hi hi2 hkl hnd hu => ?_⟩
  · have hj : j < 7 := (List.getElem?_eq_some_iff.1 hk).1
    have hj : j = 0 ∨ j = 1 ∨ j = 2 ∨ j = 3 ∨ j = 4 ∨ j = 5 ∨ j = 6 := by omega
    rcases hj with rfl | rfl | rfl | rfl | rfl | rfl | rfl <;> cases hk
    · cases hi
    · cases hi
    · cases hi
    · exact absurd (List.mem_singleton.1 hi) hab
    · show OwnS _ _ (valOf (entUpd e ia v) ia) _
      rw [upd_valA]; exact hn
    · exact absurd hc (hd ic (by simp) (fun h => hac h.symm)).1
    · cases hi
  · have hj : j < 7 := (List.getElem?_eq_some_iff.1 hk).1
    have hj : j = 0 ∨ j = 1 ∨ j = 2 ∨ j = 3 ∨ j = 4 ∨ j = 5 ∨ j = 6 := by omega
    rcases hj with rfl | rfl | rfl | rfl | rfl | rfl | rfl <;> cases hk
    · refine ⟨hB.1.grown hg hB.2 (fun y e2 => (ho.lt y e2).1), Nat.le_trans hB.2 hg.size⟩
    · exact absurd (by simp) hi2
    · exact absurd (by simp) hi2
    · exact absurd (by simp) hi2
    · exact absurd (by simp) hi
    · exact absurd (by simp) hi
    · exact hR2 _ _ hu ho hg
theorem ap_new_assign (hac : ia ≠ ic) (hbc : ib ≠ ic) (ha : e ia = some v) : ∀ (j : Nat) (kl nd : List Nat), (apK ia ib ic)[j]? = some (kl, nd) → ic ∈ nd → ic ∉ kl → (∀ i ∈ kl, e i = none) → (∀ i ∈ nd, i ≠ ic → e i ≠ none ∧ Want ops e i) → apP B W R v0 ss news ia ib ic j (valOf (entUpd e ic v)) w := by
  intro j kl nd hk hi _ _ _
  have hj : j < 7 := (List.getElem?_eq_some_iff.1 hk).1
  have hj : j = 0 ∨ j = 1 ∨ j = 2 ∨ j = 3 ∨ j = 4 ∨ j = 5 ∨ j = 6 := by omega
  rcases hj with rfl | rfl | rfl | rfl | rfl | rfl | rfl <;> cases hk
  · cases hi
  · cases hi
  · cases hi
  · exact absurd (List.mem_singleton.1 hi).symm hbc
  · exact absurd (List.mem_singleton.1 hi).symm hac
  · show valOf (entUpd e ic v) ic = valOf (entUpd e ic v) ia
    rw [upd_valA]
    unfold valOf
    rw [entUpd_other e v hac, ha]
    rfl
  · cases hi
end
section
variable (d : Option Tmp) (t : TypeId) (pos : String) (af : Array Edge) (g : Option (Nat × Bool)) (A : Act) (w : World)
theorem run_twoS (x y : Tmp) (a b : ByteArray) (hx : A.eval (.tmp x) = .string a) (hy : A.eval (.tmp y) = .string b) :
    (execOp A.eval ⟨d, .buildSlice 41 2 #[(0, .tmp x), (1, .tmp y)], t, pos, af, g⟩).run Tryz.prog w = .ok (.value (.slice (some ⟨w.heap.size, 0, none⟩) 2 2)) (w.alloc (.cells #[.string a, .string b] 9)) := by
  unfold execOp
  simp only [hx, hy, List.map_toArray, List.map_cons, List.map_nil]
  go_simp
theorem run_appTwo (w' : World) (x y : Tmp) (T : TypeId) (v1 v2 v : Value) (hx : A.eval (.tmp x) = v1) (hy : A.eval (.tmp y) = v2) (hr : (Builtin.append_ #[T, T] t #[v1, v2]).run Tryz.prog w = .ok v w') :
    (execOp A.eval ⟨d, .call { callee := .builtin .append, args := #[.tmp x, .tmp y], argTypes := #[T, T] }, t, pos, af, g⟩).run Tryz.prog w = .ok (.value v) w' := by
  subst hx; subst hy
  unfold execOp
  simp [resolve, invoke, builtin, hr, Result.andThen]
end
/-- The append of strings to a row of the call's own. -/
theorem run_appS {w : World} {B : Nat} {v0 : Value} {ss news : List (List UInt8)} (ty : TypeId) (ho : OwnS B w v0 ss) (hB : B ≤ w.heap.size) (h1 : ss.length + news.length ≤ 1000000) {g : Nat} (hg : Whole w g 9 (news.map encStr).toArray) :
    ∃ v w', (Builtin.append_ #[41, 41] ty #[v0, .slice (some ⟨g, 0, none⟩) news.length news.length]).run Tryz.prog w = .ok v w' ∧ OwnS B w' v (ss ++ news) ∧ w.grownBy w' v0.ownBlock := by
  obtain ⟨i1, hi1, hy0, hy1, hy2⟩ := infoP info_strE
  obtain ⟨v', w', hr, r1, r2, _⟩ := run_append_own (P := Tryz.prog) w B 41 ty 9 i1 _ 1 16 Tryz.underlying41 hi1 hy0 hy1 hy2 rfl (by decide) v0 ss.length (ss.map encStr) ho ⟨g, 0, none⟩ news.length news.length (news.map encStr) (by simp) (fun j u hu => by
    rw [ptr_add0, hg.cell]
    simpa using hu) (fun u hu => by
      obtain ⟨s, _, rfl⟩ := List.mem_map.1 hu
      rfl) (by unfold maxLen; omega) (by omega) hB
  refine ⟨v', w', hr, ?_, r2⟩
  show w'.ownsRow B 9 1 v' (ss ++ news).length ((ss ++ news).map encStr)
  rw [List.length_append, List.map_append]
  exact r1
end Go.Proofs.YtfkejnnbfneieaaGreatDoor
