/- The closure of link.Of: whether a report mentions a part. -/
import Derived.Test.YtolnpimnoajcaaaLnkIn
import Derived.Test.YtolnpimnoajcaaaLnkAdd
import Derived.Test.YtolnpimnoajcaaaRepNamesR
import Derived.Test.YtolnpimnoajcaaaShelf
namespace Go.Proofs.Ytolnpimnoajcaaa
open Go.RowKit
open Evt Lnk

theorem wp_region_monoL {P : Program} {id : Nat} {Q : Exit → Act → World → Prop} {a : Act} {W : World} {l : List Oper} (N : Nat) (pv : Nat → Value → World → Prop)
    (hst : ∀ k u w w', pv k u w → Below w.heap.size w w' → pv k u w')
    (hm : P.follows .mixedOrders = true) (hB : entB l.toArray N = true) (hN : a.tmps.size = N)
    (hs : ∀ (i : Nat) (o : Oper), l[i]? = some o → ∀ (w : World) (A : Act), Below W.heap.size W w →
      (∀ s ∈ o.looksAt l.toArray, ∀ j, dstOf l.toArray j = some s → pv j (A.eval (.tmp s)) w) → (∀ s, (List.range l.length).all (fun j => dstOf l.toArray j != some s) = true → A.eval (.tmp s) = a.eval (.tmp s)) →
      o.wp P A w (fun A' w' => ∃ v, A' = A.put o.dst v ∧ Below w.heap.size w w' ∧ pv i v w') Q)
    (hend : ∀ e w, Below W.heap.size W w → (∀ i, i < l.length → ∃ v, e i = some v ∧ pv i v w) → Q .normal (fillTo l.toArray e l.length a) w) : (Code.region id l.toArray true).wp P Q a W := by
  refine wp_region_ent N (fun e w => Below W.heap.size W w ∧ ∀ k u, e k = some u → pv k u w) hm hB hN ⟨(Below.refl _ _).drew, fun k u h => by cases h⟩ ?_ ?_
  · intro i o ho e w A hT hei hwt hsee haway
    refine Oper.wp_mono (fun A' w' h => ?_) (hs i o ho w A hT.1 (fun s hs j hj => hT.2 j _ (hsee s hs j hj)) haway)
    obtain ⟨v, rfl, hb, hp⟩ := h
    refine ⟨v, rfl, below_step hT.1 hb, fun k u hu => ?_⟩
    by_cases hk : k = i
    · subst hk
      rw [entUpd_same] at hu
      obtain rfl := Option.some.inj hu
      exact hp
    · rw [entUpd_other e v hk] at hu
      exact hst k u w w' (hT.2 k u hu) hb
  · intro e w hT hall
    exact hend e w hT.1 fun i hi => by
      obtain ⟨v, hv⟩ := hall i hi
      exact ⟨v, hv, hT.2 i v hv⟩

section
variable (d : Option Tmp) (t : TypeId) (pos : String) (af : Array Edge) (g : Option (Nat × Bool)) (A : Act) (w : World)
theorem run_loadO (T : TypeId) (hT : T = 22 ∨ T = 9) (x : Tmp) (p : Addr) (v : Value) (hx : A.eval (.tmp x) = .pointer (some p)) (hc : w.cell? p = some v) :
    (execOp A.eval ⟨d, .load T (.tmp x), t, pos, af, g⟩).run Try.prog w = .ok (.value v) w := by
  unfold execOp
  rcases hT with rfl | rfl <;> simp only [hx] <;> go_simp
theorem run_indexO (x y : Tmp) (b o n c j : Nat) (hj : j < n) (hx : A.eval (.tmp x) = .slice (some ⟨b, o, none⟩) n c) (hy : A.eval (.tmp y) = .int .i64 j) :
    (execOp A.eval ⟨d, .indexAddr 22 (.tmp x) (.tmp y), t, pos, af, g⟩).run Try.prog w = .ok (.value (.pointer (some ⟨b, o + j * 2, none⟩))) w := by
  have h0 : (0 : Int) ≤ j := by omega
  have h1 : (j : Int) < n := by omega
  unfold execOp
  simp only [hx, hy]
  go_simp
theorem run_loadRp (x : Tmp) (b o : Nat) (u v : Value) (hx : A.eval (.tmp x) = .pointer (some ⟨b, o, none⟩)) (hc : w.cell? ⟨b, o, none⟩ = some u) (hc2 : w.cell? ⟨b, o + 1, none⟩ = some v) :
    (execOp A.eval ⟨d, .load 40 (.tmp x), t, pos, af, g⟩).run Try.prog w = .ok (.value (.agg #[u, v])) w := by
  unfold execOp
  simp only [hx]
  go_simp
theorem run_assignL (x : Tmp) (v : Value) (hx : A.eval (.tmp x) = v) : (execOp A.eval ⟨d, .assign (.tmp x), t, pos, af, g⟩).run Try.prog w = .ok (.value v) w := by
  subst hx; rfl
end
theorem contains_any (ss : List (List UInt8)) (hl : ss.length ≤ 1000000) (x : ByteArray) (w : World) (v : Value) (h : IsS w v ss) :
    Calls Try.prog 32 #[v, .string x] w fun e w' => e = .returned (.bool (decide (bts x ∈ ss))) ∧ w' = w := by
  obtain ⟨ao, c, rfl, h⟩ := h
  obtain ⟨L, HL⟩ : ∃ L : List ByteArray, L = ss.map fun s => (⟨s.toArray⟩ : ByteArray) := ⟨_, rfl⟩
  have hll : L.length = ss.length := by rw [HL, List.length_map]
  have hm : x ∈ L ↔ bts x ∈ ss := by
    rw [HL, List.mem_map]
    constructor
    · rintro ⟨s, h1, rfl⟩; exact h1
    · intro h1; exact ⟨_, h1, rfl⟩
  have hc : Lib.containsS L x = decide (bts x ∈ ss) := by
    by_cases hx : bts x ∈ ss
    · rw [(Lib.containsS_iff L x).2 (hm.2 hx), decide_eq_true hx]
    · rw [decide_eq_false hx]
      cases hq : Lib.containsS L x with
      | false => rfl
      | true => exact absurd (hm.1 ((Lib.containsS_iff L x).1 hq)) hx
  by_cases h0 : ss = []
  · subst h0
    exact (Try.slices_Contains_string_empty ao c x w).mono fun e w' ⟨h1, h2⟩ => ⟨by rw [h1]; simp, h2⟩
  · have hp : 0 < ss.length := List.length_pos_iff.2 h0
    obtain ⟨b, rfl, _, _⟩ := h 0 hp
    have := Try.slices_Contains_string b 0 L.length c L x w (Nat.le_refl _) (by rw [hll]; omega) (fun j hj => by
      have hj' : j < ss.length := by rw [← hll]; exact hj
      obtain ⟨b', e', _, h3⟩ := h j hj'
      injection e' with e'
      injection e' with e'
      subst e'
      rw [Nat.zero_add, h3, List.getD_eq_getElem?_getD, HL, List.getElem?_map, List.getElem?_eq_getElem hj']
      rfl)
    rw [List.take_length, hc, hll] at this
    exact this
end Go.Proofs.Ytolnpimnoajcaaa
