/- report.Picked: values; rows of events of the call's own. -/
import Derived.Test.YtknphmkblcbabaaGreatDoorRepValid
import Derived.Test.YtknphmkblcbabaaGreatDoorRepNamesW
import Derived.Test.YtknphmkblcbabaaGreatDoorMono
import Derived.Test.YtknphmkblcbabaaGreatDoorZsArg
namespace Go.Proofs.YtknphmkblcbabaaGreatDoor
open Go.RowKit
open Evt

namespace Evt
def pk (r : Rp) (c : Int) : List Ev := (r.opts[c.toNat]?).toList
noncomputable def pkOk (r : Rp) (c : Int) : Bool := !decide (c < 0) && !decide (choices r ≤ c)
def pkd (l : List Rp) (cs : List Int) (k : Nat) : List Ev := ((l.zip cs).take k).flatMap fun p => pk p.1 p.2
noncomputable def pkAll (l : List Rp) (cs : List Int) (k : Nat) : Bool := ((l.zip cs).take k).all fun p => pkOk p.1 p.2
noncomputable def pickB (l : List Rp) (cs : List Int) : Bool := decide (l.length = cs.length) && pkAll l cs l.length
noncomputable def pickE (l : List Rp) (cs : List Int) : Int := if pickB l cs then 0 else 1
noncomputable def pickF (l : List Rp) (cs : List Int) : List Ev := if pickB l cs then pkd l cs l.length else []
theorem zip_take {l : List Rp} {cs : List Int} {k : Nat} (h1 : k < l.length) (h2 : k < cs.length) : (l.zip cs).take (k + 1) = (l.zip cs).take k ++ [(l[k], cs[k])] := by
  have h : k < (l.zip cs).length := by rw [List.length_zip]; omega
  rw [← List.take_append_getElem h, List.getElem_zip]
theorem pkd_next {l : List Rp} {cs : List Int} {k : Nat} (h1 : k < l.length) (h2 : k < cs.length) : pkd l cs (k + 1) = pkd l cs k ++ pk l[k] cs[k] := by
  unfold pkd
  rw [zip_take h1 h2, List.flatMap_append]
  simp
theorem pkAll_next {l : List Rp} {cs : List Int} {k : Nat} (h1 : k < l.length) (h2 : k < cs.length) : pkAll l cs (k + 1) = (pkAll l cs k && pkOk l[k] cs[k]) := by
  unfold pkAll
  rw [zip_take h1 h2, List.all_append]
  simp
theorem pkAll_no {l : List Rp} {cs : List Int} {k : Nat} (h1 : k < l.length) (h2 : k < cs.length) (h : pkOk l[k] cs[k] = false) : pickB l cs = false := by
  unfold pickB
  rw [Bool.and_eq_false_iff]
  right
  have hz : k < (l.zip cs).length := by rw [List.length_zip]; omega
  cases hq : pkAll l cs l.length with
  | false => rfl
  | true =>
    unfold pkAll at hq
    have := List.all_eq_true.1 hq (l[k], cs[k]) (by
      rw [List.take_of_length_le (by rw [List.length_zip]; omega), ← List.getElem_zip (h := hz)]
      exact List.getElem_mem hz)
    rw [h] at this
    cases this
theorem pkd_len (l : List Rp) (cs : List Int) (k : Nat) : (pkd l cs k).length ≤ k := by
  have key : ∀ (z : List (Rp × Int)), (z.flatMap fun p => pk p.1 p.2).length ≤ z.length := by
    intro z
    induction z with
    | nil => simp
    | cons p z ih =>
      rw [List.flatMap_cons, List.length_append, List.length_cons]
      have : (pk p.1 p.2).length ≤ 1 := by unfold pk; cases p.1.opts[p.2.toNat]? <;> simp
      omega
  have := key ((l.zip cs).take k)
  unfold pkd
  rw [List.length_take] at this
  omega
end Evt
theorem info_evE : (Tryz.prog.info? 51).map (fun i => (i.zero, i.size, i.bytes)) = some (some (.agg (evC zero).toArray), 14, 160) := by kernel_rfl
/-- A row of the call's own that holds events. -/
structure OwnE (B : Nat) (w : World) (v : Value) (es : List Ev) : Prop where
  row : w.ownsRow B 51 14 v es.length (es.flatMap evC)
  sz : ∀ e ∈ es, Sz e
theorem OwnE.nil (B : Nat) (w : World) : OwnE B w (.slice none 0 0) [] := ⟨World.ownsRow_nil _ _ _ _, fun _ h => by cases h⟩
theorem OwnE.below {B : Nat} {w w' : World} {v : Value} {es : List Ev} (h : OwnE B w v es) (hb : Below w.heap.size w w') : OwnE B w' v es := ⟨owns_belowM h.row hb, h.sz⟩
theorem OwnE.isL {B : Nat} {w : World} {v : Value} {es : List Ev} (h : OwnE B w v es) : ∃ ao c, v = .slice ao es.length c ∧ IsL 14 ElEv w ao es := by
  obtain ⟨a, c, rfl⟩ := owns_shapeM h.row
  refine ⟨a, c, rfl, IsL.row (css := es.map evC) (by rw [← List.flatMap_def]; exact h.row) rfl (by simp) (fun cs hcs => ?_) (fun k hk hk' => ?_)⟩
  · obtain ⟨e, _, rfl⟩ := List.mem_map.1 hcs
    rfl
  · rw [List.getElem_map]
    exact ⟨rfl, h.sz _ (List.getElem_mem hk)⟩
theorem news_list (w : World) (t : TypeId) (l : List Value) : ∀ j u, l[j]? = some u → (w.alloc (.cells l.toArray t)).cell? ((⟨w.heap.size, 0, none⟩ : Addr).add j) = some u := fun j u hu => by
  have e : (⟨w.heap.size, 0, none⟩ : Addr).add j = ⟨w.heap.size, j, none⟩ := by unfold Addr.add; split <;> simp_all
  rw [e, (Whole.new w t l.toArray).cell]
  simpa using hu
end Go.Proofs.YtknphmkblcbabaaGreatDoor
