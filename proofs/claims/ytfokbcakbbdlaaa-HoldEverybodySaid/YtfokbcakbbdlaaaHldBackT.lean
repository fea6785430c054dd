/- The same, as what holds of all that has been yielded so far: for the reference's region (13 operations) and for the law's (10). -/
import Derived.Test.YtfokbcakbbdlaaaHldBack
namespace Go.Proofs.Ytfokbcakbbdlaaa
open Go.RowKit
open Hld (Rc Hd)

section
variable (V : World) (g : Nat) (a b c : Value) (bo : Option Addr) (bl bc : Nat) (zs : List Int) (au : Int) (pv : Nat → Value → Prop)
structure BkR (e : Ent) (w : World) : Prop where
  grown : V.grownBy w (some g)
  hold : e 12 = none → Whole w g 31 #[a, b, c, .slice bo bl bc]
  empty : e 10 = none → ∀ v, e 0 = some v → ∃ g0, v = .slice (some ⟨g0, 0, none⟩) 0 0 ∧ V.heap.size ≤ g0 ∧ Whole w g0 3 #[]
  copy : e 10 = none → ∀ v, e 3 = some v → w.ownsRow V.heap.size 3 1 v bl (intsC zs)
  one : e 10 = none → ∀ v, e 9 = some v → ∃ g1, v = .slice (some ⟨g1, 0, none⟩) 1 1 ∧ Whole w g1 3 #[.int .i64 au]
  new : ∀ v, e 10 = some v → w.ownsRow V.heap.size 3 1 v (bl + 1) (intsC zs ++ [.int .i64 au])
  done : ∀ u, e 12 = some u → ∃ v, e 10 = some v ∧ Whole w g 31 #[a, b, c, v]
  two : e 10 ≠ none → e 3 ≠ none ∧ e 9 ≠ none
  load : e 3 ≠ none → e 2 ≠ none
  pure : ∀ j v, e j = some v → pv j v
end
section
variable {V : World} {g : Nat} {a b c : Value} {bo : Option Addr} {bl bc : Nat} {zs : List Int} {au : Int} {pv : Nat → Value → Prop} {e : Ent} {w w' : World}
theorem BkR.start (hg : Whole V g 31 #[a, b, c, .slice bo bl bc]) : BkR V g a b c bo bl bc zs au pv (fun _ => none) V.drew := by
  refine ⟨below_grownBy (Below.refl _ _).drew _, fun _ => hg, fun _ v hv => ?_, fun _ v hv => ?_, fun _ v hv => ?_, fun v hv => ?_, fun v hv => ?_, fun h => absurd rfl h, fun h => absurd rfl h, fun j v hv => ?_⟩ <;> cases hv
theorem BkR.step (hT : BkR V g a b c bo bl bc zs au pv e w) {j : Nat} (hC : 10 ≠ j) (hS : 12 ≠ j) {v : Value} (hw : Below w.heap.size w w')
    (h0 : j = 0 → ∃ g0, v = .slice (some ⟨g0, 0, none⟩) 0 0 ∧ V.heap.size ≤ g0 ∧ Whole w' g0 3 #[]) (hA : j = 3 → w'.ownsRow V.heap.size 3 1 v bl (intsC zs)) (hB : j = 9 → ∃ g1, v = .slice (some ⟨g1, 0, none⟩) 1 1 ∧ Whole w' g1 3 #[.int .i64 au])
    (hL : j = 3 → e 2 ≠ none) (hp : pv j v) : BkR V g a b c bo bl bc zs au pv (entUpd e j v) w' := by
  refine ⟨⟨hw.os.trans hT.grown.os, hw.tape.trans hT.grown.tape, hw.output.trans hT.grown.output, Nat.le_trans hT.grown.size hw.size, fun k hk hne => (hw.block k (Nat.lt_of_lt_of_le hk hT.grown.size)).trans (hT.grown.block k hk hne)⟩, fun h => ?_, fun h u hu => ?_, fun h u hu => ?_, fun h u hu => ?_, fun u hu => ?_, fun u hu => ?_, fun h => ?_, fun h => ?_, fun k u hu => ?_⟩
  · rw [entUpd_other e v hS] at h
    exact whole_below (hT.hold h) hw
  · rw [entUpd_other e v hC] at h
    by_cases hk : 0 = j
    · subst hk
      rw [entUpd_same] at hu
      obtain rfl := Option.some.inj hu
      exact h0 rfl
    · rw [entUpd_other e v hk] at hu
      obtain ⟨g0, q1, q2, q3⟩ := hT.empty h u hu
      exact ⟨g0, q1, q2, whole_below q3 hw⟩
  · rw [entUpd_other e v hC] at h
    by_cases hk : 3 = j
    · subst hk
      rw [entUpd_same] at hu
      obtain rfl := Option.some.inj hu
      exact hA rfl
    · rw [entUpd_other e v hk] at hu
      exact owns_below (hT.copy h u hu) hw
  · rw [entUpd_other e v hC] at h
    by_cases hk : 9 = j
    · subst hk
      rw [entUpd_same] at hu
      obtain rfl := Option.some.inj hu
      exact hB rfl
    · rw [entUpd_other e v hk] at hu
      obtain ⟨g1, q1, q2⟩ := hT.one h u hu
      exact ⟨g1, q1, whole_below q2 hw⟩
  · rw [entUpd_other e v hC] at hu
    exact owns_below (hT.new u hu) hw
  · rw [entUpd_other e v hS] at hu
    obtain ⟨x, q1, q2⟩ := hT.done u hu
    exact ⟨x, by rw [entUpd_other e v hC]; exact q1, whole_below q2 hw⟩
  · rw [entUpd_other e v hC] at h
    have := hT.two h
    refine ⟨?_, ?_⟩
    · by_cases hk : 3 = j
      · subst hk; rw [entUpd_same]; simp
      · rw [entUpd_other e v hk]; exact this.1
    · by_cases hk : 9 = j
      · subst hk; rw [entUpd_same]; simp
      · rw [entUpd_other e v hk]; exact this.2
  · by_cases h2 : 2 = j
    · subst h2; rw [entUpd_same]; simp
    · rw [entUpd_other e v h2]
      by_cases hk : 3 = j
      · exact hL hk.symm
      · rw [entUpd_other e v hk] at h
        exact hT.load h
  · by_cases hk : k = j
    · subst hk
      rw [entUpd_same] at hu
      obtain rfl := Option.some.inj hu
      exact hp
    · rw [entUpd_other e v hk] at hu
      exact hT.pure k u hu
theorem BkR.grow (hT : BkR V g a b c bo bl bc zs au pv e w) (hgV : g < V.heap.size) (h5 : e 10 = none) (hA : e 3 ≠ none) (hB : e 9 ≠ none) {v v2 : Value} (h2 : w.ownsRow V.heap.size 3 1 v2 bl (intsC zs)) (hg : w.grownBy w' v2.ownBlock) (hv : w'.ownsRow V.heap.size 3 1 v (bl + 1) (intsC zs ++ [.int .i64 au])) (hp : pv 10 v) :
    BkR V g a b c bo bl bc zs au pv (entUpd e 10 v) w' := by
  have hne : ∀ k, k < V.heap.size → v2.ownBlock ≠ some k := fun k hk e2 => by have := (h2.lt k e2).1; omega
  have hIS : e 12 = none := by
    cases hx : e 12 with
    | none => rfl
    | some u => obtain ⟨x, q1, _⟩ := hT.done u hx; rw [h5] at q1; cases q1
  refine ⟨⟨hg.os.trans hT.grown.os, hg.tape.trans hT.grown.tape, hg.output.trans hT.grown.output, Nat.le_trans hT.grown.size hg.size, fun k hk hne2 => (hg.block k (Nat.lt_of_lt_of_le hk hT.grown.size) (fun e2 => hne k hk e2.symm)).trans (hT.grown.block k hk hne2)⟩, fun h => ?_, fun h => ?_, fun h => ?_, fun h => ?_, fun u hu => ?_, fun u hu => ?_, fun _ => ?_, fun h => ?_, fun k u hu => ?_⟩
  · exact whole_grown (hT.hold hIS) hg (hne g hgV)
  · rw [entUpd_same] at h; cases h
  · rw [entUpd_same] at h; cases h
  · rw [entUpd_same] at h; cases h
  · rw [entUpd_same] at hu
    obtain rfl := Option.some.inj hu
    exact hv
  · rw [entUpd_other e v (by decide), hIS] at hu; cases hu
  · exact ⟨by rw [entUpd_other e v (by decide)]; exact hA, by rw [entUpd_other e v (by decide)]; exact hB⟩
  · rw [entUpd_other e v (by decide)] at h ⊢; exact hT.load h
  · by_cases hk : k = 10
    · subst hk
      rw [entUpd_same] at hu
      obtain rfl := Option.some.inj hu
      exact hp
    · rw [entUpd_other e v hk] at hu
      exact hT.pure k u hu
theorem BkR.store (hT : BkR V g a b c bo bl bc zs au pv e w) (hgV : g < V.heap.size) (hS : e 12 = none) {v u : Value} (h5 : e 10 = some v) (hp : pv 12 u) : BkR V g a b c bo bl bc zs au pv (entUpd e 12 u) (w.setCell ⟨g, 3, none⟩ v) := by
  have hw := hT.hold hS
  have hC : (entUpd e 12 u) 10 = some v := by rw [entUpd_other e u (by decide)]; exact h5
  refine ⟨⟨hT.grown.os, hT.grown.tape, hT.grown.output, by rw [show (w.setCell ⟨g, 3, none⟩ v).heap.size = w.heap.size by simp]; exact hT.grown.size, fun k hk hne => ?_⟩, fun h => ?_, fun h => ?_, fun h => ?_, fun h => ?_, fun x hx => ?_, fun x hx => ?_, fun _ => ?_, fun h => ?_, fun k x hx => ?_⟩
  · rw [Below.heap_setCell _ _ _ _ (fun e2 => hne (by rw [e2]))]
    exact hT.grown.block k hk hne
  · rw [entUpd_same] at h; cases h
  · rw [hC] at h; cases h
  · rw [hC] at h; cases h
  · rw [hC] at h; cases h
  · rw [hC] at hx
    obtain rfl := Option.some.inj hx
    exact owns_set (hT.new v h5) hw (by decide) v
  · exact ⟨v, hC, hw.set 3 v⟩
  · have := hT.two (by rw [h5]; simp)
    exact ⟨by rw [entUpd_other e u (by decide)]; exact this.1, by rw [entUpd_other e u (by decide)]; exact this.2⟩
  · rw [entUpd_other e u (by decide)] at h ⊢; exact hT.load h
  · by_cases hk : k = 12
    · subst hk
      rw [entUpd_same] at hx
      obtain rfl := Option.some.inj hx
      exact hp
    · rw [entUpd_other e u hk] at hx
      exact hT.pure k x hx
end

section
variable (V : World) (g : Nat) (a b c : Value) (bo : Option Addr) (bl bc : Nat) (zs : List Int) (au : Int) (pv : Nat → Value → Prop)
structure BkL (e : Ent) (w : World) : Prop where
  grown : V.grownBy w (some g)
  hold : e 9 = none → Whole w g 31 #[a, b, c, .slice bo bl bc]
  empty : e 7 = none → ∀ v, e 0 = some v → ∃ g0, v = .slice (some ⟨g0, 0, none⟩) 0 0 ∧ V.heap.size ≤ g0 ∧ Whole w g0 3 #[]
  copy : e 7 = none → ∀ v, e 3 = some v → w.ownsRow V.heap.size 3 1 v bl (intsC zs)
  one : e 7 = none → ∀ v, e 6 = some v → ∃ g1, v = .slice (some ⟨g1, 0, none⟩) 1 1 ∧ Whole w g1 3 #[.int .i64 au]
  new : ∀ v, e 7 = some v → w.ownsRow V.heap.size 3 1 v (bl + 1) (intsC zs ++ [.int .i64 au])
  done : ∀ u, e 9 = some u → ∃ v, e 7 = some v ∧ Whole w g 31 #[a, b, c, v]
  two : e 7 ≠ none → e 3 ≠ none ∧ e 6 ≠ none
  load : e 3 ≠ none → e 2 ≠ none
  pure : ∀ j v, e j = some v → pv j v
end
section
variable {V : World} {g : Nat} {a b c : Value} {bo : Option Addr} {bl bc : Nat} {zs : List Int} {au : Int} {pv : Nat → Value → Prop} {e : Ent} {w w' : World}
theorem BkL.start (hg : Whole V g 31 #[a, b, c, .slice bo bl bc]) : BkL V g a b c bo bl bc zs au pv (fun _ => none) V.drew := by
  refine ⟨below_grownBy (Below.refl _ _).drew _, fun _ => hg, fun _ v hv => ?_, fun _ v hv => ?_, fun _ v hv => ?_, fun v hv => ?_, fun v hv => ?_, fun h => absurd rfl h, fun h => absurd rfl h, fun j v hv => ?_⟩ <;> cases hv
theorem BkL.step (hT : BkL V g a b c bo bl bc zs au pv e w) {j : Nat} (hC : 7 ≠ j) (hS : 9 ≠ j) {v : Value} (hw : Below w.heap.size w w')
    (h0 : j = 0 → ∃ g0, v = .slice (some ⟨g0, 0, none⟩) 0 0 ∧ V.heap.size ≤ g0 ∧ Whole w' g0 3 #[]) (hA : j = 3 → w'.ownsRow V.heap.size 3 1 v bl (intsC zs)) (hB : j = 6 → ∃ g1, v = .slice (some ⟨g1, 0, none⟩) 1 1 ∧ Whole w' g1 3 #[.int .i64 au])
    (hL : j = 3 → e 2 ≠ none) (hp : pv j v) : BkL V g a b c bo bl bc zs au pv (entUpd e j v) w' := by
  refine ⟨⟨hw.os.trans hT.grown.os, hw.tape.trans hT.grown.tape, hw.output.trans hT.grown.output, Nat.le_trans hT.grown.size hw.size, fun k hk hne => (hw.block k (Nat.lt_of_lt_of_le hk hT.grown.size)).trans (hT.grown.block k hk hne)⟩, fun h => ?_, fun h u hu => ?_, fun h u hu => ?_, fun h u hu => ?_, fun u hu => ?_, fun u hu => ?_, fun h => ?_, fun h => ?_, fun k u hu => ?_⟩
  · rw [entUpd_other e v hS] at h
    exact whole_below (hT.hold h) hw
  · rw [entUpd_other e v hC] at h
    by_cases hk : 0 = j
    · subst hk
      rw [entUpd_same] at hu
      obtain rfl := Option.some.inj hu
      exact h0 rfl
    · rw [entUpd_other e v hk] at hu
      obtain ⟨g0, q1, q2, q3⟩ := hT.empty h u hu
      exact ⟨g0, q1, q2, whole_below q3 hw⟩
  · rw [entUpd_other e v hC] at h
    by_cases hk : 3 = j
    · subst hk
      rw [entUpd_same] at hu
      obtain rfl := Option.some.inj hu
      exact hA rfl
    · rw [entUpd_other e v hk] at hu
      exact owns_below (hT.copy h u hu) hw
  · rw [entUpd_other e v hC] at h
    by_cases hk : 6 = j
    · subst hk
      rw [entUpd_same] at hu
      obtain rfl := Option.some.inj hu
      exact hB rfl
    · rw [entUpd_other e v hk] at hu
      obtain ⟨g1, q1, q2⟩ := hT.one h u hu
      exact ⟨g1, q1, whole_below q2 hw⟩
  · rw [entUpd_other e v hC] at hu
    exact owns_below (hT.new u hu) hw
  · rw [entUpd_other e v hS] at hu
    obtain ⟨x, q1, q2⟩ := hT.done u hu
    exact ⟨x, by rw [entUpd_other e v hC]; exact q1, whole_below q2 hw⟩
  · rw [entUpd_other e v hC] at h
    have := hT.two h
    refine ⟨?_, ?_⟩
    · by_cases hk : 3 = j
      · subst hk; rw [entUpd_same]; simp
      · rw [entUpd_other e v hk]; exact this.1
    · by_cases hk : 6 = j
      · subst hk; rw [entUpd_same]; simp
      · rw [entUpd_other e v hk]; exact this.2
  · by_cases h2 : 2 = j
    · subst h2; rw [entUpd_same]; simp
    · rw [entUpd_other e v h2]
      by_cases hk : 3 = j
      · exact hL hk.symm
      · rw [entUpd_other e v hk] at h
        exact hT.load h
  · by_cases hk : k = j
    · subst hk
      rw [entUpd_same] at hu
      obtain rfl := Option.some.inj hu
      exact hp
    · rw [entUpd_other e v hk] at hu
      exact hT.pure k u hu
theorem BkL.grow (hT : BkL V g a b c bo bl bc zs au pv e w) (hgV : g < V.heap.size) (h5 : e 7 = none) (hA : e 3 ≠ none) (hB : e 6 ≠ none) {v v2 : Value} (h2 : w.ownsRow V.heap.size 3 1 v2 bl (intsC zs)) (hg : w.grownBy w' v2.ownBlock) (hv : w'.ownsRow V.heap.size 3 1 v (bl + 1) (intsC zs ++ [.int .i64 au])) (hp : pv 7 v) :
    BkL V g a b c bo bl bc zs au pv (entUpd e 7 v) w' := by
  have hne : ∀ k, k < V.heap.size → v2.ownBlock ≠ some k := fun k hk e2 => by have := (h2.lt k e2).1; omega
  have hIS : e 9 = none := by
    cases hx : e 9 with
    | none => rfl
    | some u => obtain ⟨x, q1, _⟩ := hT.done u hx; rw [h5] at q1; cases q1
  refine ⟨⟨hg.os.trans hT.grown.os, hg.tape.trans hT.grown.tape, hg.output.trans hT.grown.output, Nat.le_trans hT.grown.size hg.size, fun k hk hne2 => (hg.block k (Nat.lt_of_lt_of_le hk hT.grown.size) (fun e2 => hne k hk e2.symm)).trans (hT.grown.block k hk hne2)⟩, fun h => ?_, fun h => ?_, fun h => ?_, fun h => ?_, fun u hu => ?_, fun u hu => ?_, fun _ => ?_, fun h => ?_, fun k u hu => ?_⟩
  · exact whole_grown (hT.hold hIS) hg (hne g hgV)
  · rw [entUpd_same] at h; cases h
  · rw [entUpd_same] at h; cases h
  · rw [entUpd_same] at h; cases h
  · rw [entUpd_same] at hu
    obtain rfl := Option.some.inj hu
    exact hv
  · rw [entUpd_other e v (by decide), hIS] at hu; cases hu
  · exact ⟨by rw [entUpd_other e v (by decide)]; exact hA, by rw [entUpd_other e v (by decide)]; exact hB⟩
  · rw [entUpd_other e v (by decide)] at h ⊢; exact hT.load h
  · by_cases hk : k = 7
    · subst hk
      rw [entUpd_same] at hu
      obtain rfl := Option.some.inj hu
      exact hp
    · rw [entUpd_other e v hk] at hu
      exact hT.pure k u hu
theorem BkL.store (hT : BkL V g a b c bo bl bc zs au pv e w) (hgV : g < V.heap.size) (hS : e 9 = none) {v u : Value} (h5 : e 7 = some v) (hp : pv 9 u) : BkL V g a b c bo bl bc zs au pv (entUpd e 9 u) (w.setCell ⟨g, 3, none⟩ v) := by
  have hw := hT.hold hS
  have hC : (entUpd e 9 u) 7 = some v := by rw [entUpd_other e u (by decide)]; exact h5
  refine ⟨⟨hT.grown.os, hT.grown.tape, hT.grown.output, by rw [show (w.setCell ⟨g, 3, none⟩ v).heap.size = w.heap.size by simp]; exact hT.grown.size, fun k hk hne => ?_⟩, fun h => ?_, fun h => ?_, fun h => ?_, fun h => ?_, fun x hx => ?_, fun x hx => ?_, fun _ => ?_, fun h => ?_, fun k x hx => ?_⟩
  · rw [Below.heap_setCell _ _ _ _ (fun e2 => hne (by rw [e2]))]
    exact hT.grown.block k hk hne
  · rw [entUpd_same] at h; cases h
  · rw [hC] at h; cases h
  · rw [hC] at h; cases h
  · rw [hC] at h; cases h
  · rw [hC] at hx
    obtain rfl := Option.some.inj hx
    exact owns_set (hT.new v h5) hw (by decide) v
  · exact ⟨v, hC, hw.set 3 v⟩
  · have := hT.two (by rw [h5]; simp)
    exact ⟨by rw [entUpd_other e u (by decide)]; exact this.1, by rw [entUpd_other e u (by decide)]; exact this.2⟩
  · rw [entUpd_other e u (by decide)] at h ⊢; exact hT.load h
  · by_cases hk : k = 9
    · subst hk
      rw [entUpd_same] at hx
      obtain rfl := Option.some.inj hx
      exact hp
    · rw [entUpd_other e u hk] at hx
      exact hT.pure k x hx
end

theorem BkR.unstored {V : World} {g : Nat} {a b c : Value} {bo : Option Addr} {bl bc : Nat} {zs : List Int} {au : Int} {pv : Nat → Value → Prop} {e : Ent} {w : World} (hT : BkR V g a b c bo bl bc zs au pv e w) (h2 : e 2 = none) : e 12 = none := by
  cases hx : e 12 with
  | none => rfl
  | some u =>
    obtain ⟨v, q, _⟩ := hT.done u hx
    exact absurd h2 (hT.load (hT.two (by rw [q]; simp)).1)
theorem BkL.unstored {V : World} {g : Nat} {a b c : Value} {bo : Option Addr} {bl bc : Nat} {zs : List Int} {au : Int} {pv : Nat → Value → Prop} {e : Ent} {w : World} (hT : BkL V g a b c bo bl bc zs au pv e w) (h2 : e 2 = none) : e 9 = none := by
  cases hx : e 9 with
  | none => rfl
  | some u =>
    obtain ⟨v, q, _⟩ := hT.done u hx
    exact absurd h2 (hT.load (hT.two (by rw [q]; simp)).1)
section
variable (d : Option Tmp) (t : TypeId) (pos : String) (af : Array Edge) (g : Option (Nat × Bool)) (A : Act) (w : World)
theorem run_index_rec (x y : Tmp) (b o n c j : Nat) (hj : j < n) (hx : A.eval (.tmp x) = .slice (some ⟨b, o, none⟩) n c) (hy : A.eval (.tmp y) = .int .i64 j) :
    (execOp A.eval ⟨d, .indexAddr 23 (.tmp x) (.tmp y), t, pos, af, g⟩).run Try.prog w = .ok (.value (.pointer (some ⟨b, o + j * 36, none⟩))) w := by
  have h0 : (0 : Int) ≤ j := by omega
  have h1 : (j : Int) < n := by omega
  unfold execOp
  simp only [hx, hy]
  go_simp
theorem run_field_auth (x : Tmp) (b o : Nat) (hx : A.eval (.tmp x) = .pointer (some ⟨b, o, none⟩)) :
    (execOp A.eval ⟨d, .fieldAddr 54 (.tmp x) 1, t, pos, af, g⟩).run Try.prog w = .ok (.value (.pointer (some ⟨b, o + 1, none⟩))) w := by
  unfold execOp
  simp only [hx]
  go_simp
theorem run_move' (x : Tmp) (v : Value) (hx : A.eval (.tmp x) = v) : (execOp A.eval ⟨d, .move (.tmp x), t, pos, af, g⟩).run Try.prog w = .ok (.value v) w := by
  subst hx; rfl
end
def bkPv (gh bk off j n rc : Nat) (bo : Option Addr) (bl bc : Nat) (au : Int) : Nat → Value → Prop
  | 1, v => v = .pointer (some ⟨gh, 3, none⟩)
  | 2, v => v = .slice bo bl bc
  | 4, v => v = .slice (some ⟨bk, off, none⟩) n rc
  | 5, v => v = .int .i64 j
  | 6, v => v = .pointer (some ⟨bk, off + j * 36, none⟩)
  | 7, v => v = .pointer (some ⟨bk, off + j * 36 + 1, none⟩)
  | 8, v => v = .int .i64 au
  | 11, v => v = .pointer (some ⟨gh, 3, none⟩)
  | _, _ => True
theorem bk_append {w : World} {B : Nat} (ty : TypeId) {bl : Nat} (h1 : bl ≤ 100000) (hb : B ≤ w.heap.size) {v2 : Value} {zs : List Int} {au : Int} (h2 : w.ownsRow B 3 1 v2 bl (intsC zs)) {g : Nat} (hg : Whole w g 3 #[.int .i64 au]) :
    ∃ v w', (Builtin.append_ #[29, 29] ty #[v2, .slice (some ⟨g, 0, none⟩) 1 1]).run Try.prog w = .ok v w' ∧ w'.ownsRow B 3 1 v (bl + 1) (intsC zs ++ [.int .i64 au]) ∧ w.grownBy w' v2.ownBlock := by
  obtain ⟨i1, hi1, hy0, hy1, hy2⟩ := info_parts info_num
  obtain ⟨v', w', hr, r1, r2, _⟩ := run_append_own (P := Try.prog) w B 29 ty 3 i1 _ 1 8 Try.underlying29 hi1 hy0 hy1 hy2 rfl (by decide) v2 bl (intsC zs) h2 ⟨g, 0, none⟩ 1 1 [.int .i64 au] rfl (fun j u hu => by
    have e : (⟨g, 0, none⟩ : Addr).add j = ⟨g, j, none⟩ := by unfold Addr.add; split <;> simp_all
    rw [e, hg.cell]
    simpa using hu) (by simp [Value.oneCell']) (by unfold maxLen; omega) (by omega) hb
  exact ⟨v', w', hr, r1, r2⟩

end Go.Proofs.Ytfokbcakbbdlaaa
