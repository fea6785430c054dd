/- Values: holds without what one member gave back. -/
import Derived.Test.YtfokbcakbbdlaaaHldAll
namespace Go.Proofs.Ytfokbcakbbdlaaa
namespace Hld

def keep (z : Int) (x : ByteArray × Rc) : Bool := !decide (x.2.kind = 6) || !decide (x.2.author = z)
def drop (z : Int) (h : Hd) : Hd := { h with back := h.back.filter fun a => !decide (a = z) }
theorem filter_contains {l : List Int} {a z : Int} (h : a ≠ z) : (l.filter fun a => !decide (a = z)).contains a = l.contains a := by
  rw [Bool.eq_iff_iff]
  simp [List.mem_filter, h]
theorem give_drop {z : Int} {r : Rc} {h : Hd} (hz : r.author ≠ z) : give r (drop z h) = drop z (give r h) := by
  have e : gives r (drop z h) = gives r h := by
    unfold gives drop
    dsimp only
    rw [filter_contains hz]
  unfold give
  rw [e]
  split
  · unfold drop
    dsimp only
    rw [List.filter_append]
    have : [r.author].filter (fun a => !decide (a = z)) = [r.author] := by simp [hz]
    rw [this]
  · rfl
theorem drop_give {z : Int} {r : Rc} {h : Hd} (hz : r.author = z) : drop z (give r h) = drop z h := by
  unfold give
  split
  · unfold drop
    dsimp only
    rw [List.filter_append]
    have : [r.author].filter (fun a => !decide (a = z)) = [] := by simp [hz]
    rw [this, List.append_nil]
  · rfl
theorem known_drop (hs : List Hd) (z : Int) (id : ByteArray) : known (hs.map (drop z)) id = known hs id := by
  unfold known
  rw [List.any_map]
  rfl
theorem step_keep {hs : List Hd} {z : Int} {x : ByteArray × Rc} (hk : keep z x = true) : step (hs.map (drop z)) x = (step hs x).map (drop z) := by
  unfold step
  rw [known_drop]
  split
  · split
    · rfl
    · rw [List.map_append]; rfl
  · split
    · rename_i h6
      have hz : x.2.author ≠ z := by
        unfold keep at hk
        rw [decide_eq_true h6] at hk
        simpa using hk
      rw [List.map_map, List.map_map]
      exact List.map_congr_left fun h _ => give_drop hz
    · rfl
theorem step_drop {hs : List Hd} {z : Int} {x : ByteArray × Rc} (hk : keep z x = false) : (step hs x).map (drop z) = hs.map (drop z) := by
  unfold keep at hk
  simp only [Bool.or_eq_false_iff, Bool.not_eq_false', decide_eq_true_eq] at hk
  unfold step makes
  rw [decide_eq_false (by omega), Bool.false_and, if_neg (by simp), if_pos hk.1, List.map_map]
  exact List.map_congr_left fun h _ => drop_give hk.2
theorem fold_keep : ∀ (l : List (ByteArray × Rc)) (z : Int) (hs : List Hd), (l.filter (keep z)).foldl step (hs.map (drop z)) = (l.foldl step hs).map (drop z)
  | [], _, _ => rfl
  | x :: l, z, hs => by
    rw [List.filter_cons, List.foldl_cons]
    cases hk : keep z x with
    | true => rw [if_pos rfl, List.foldl_cons, step_keep hk, fold_keep l]
    | false => rw [if_neg (by simp), ← fold_keep l, step_drop hk]
theorem all_keep (l : List (ByteArray × Rc)) (z : Int) : allF (l.filter (keep z)) = (allF l).map (drop z) := fold_keep l z []
def Among (hs : List Hd) : Prop := ∀ h ∈ hs, ∀ a ∈ h.back, a ∈ h.members
theorem among_step {hs : List Hd} (h : Among hs) (x : ByteArray × Rc) : Among (step hs x) := by
  unfold step
  split
  · split
    · exact h
    · intro y hy a ha
      rcases List.mem_append.1 hy with hy | hy
      · exact h y hy a ha
      · rw [List.mem_singleton.1 hy] at ha; simp at ha
  · split
    · intro y hy a ha
      obtain ⟨u, hu, rfl⟩ := List.mem_map.1 hy
      rw [give_members]
      unfold give at ha
      split at ha
      · rename_i hg
        rcases List.mem_append.1 ha with ha | ha
        · exact h u hu a ha
        · unfold gives at hg
          simp only [Bool.and_eq_true] at hg
          rw [List.mem_singleton.1 ha]
          simpa using hg.2.1
      · exact h u hu a ha
    · exact h
theorem among_fold : ∀ (l : List (ByteArray × Rc)) (hs : List Hd), Among hs → Among (l.foldl step hs)
  | [], _, h => h
  | x :: l, hs, h => by rw [List.foldl_cons]; exact among_fold l _ (among_step h x)
theorem among_all (l : List (ByteArray × Rc)) : Among (allF l) := among_fold l [] (by intro h hh; simp at hh)
theorem drop_same {z : Int} {h : Hd} (ha : ∀ a ∈ h.back, a ∈ h.members) (hz : h.members.contains z = false) : drop z h = h := by
  unfold drop
  have : h.back.filter (fun a => !decide (a = z)) = h.back := by
    rw [List.filter_eq_self]
    intro a hm
    have hz' : ¬ z ∈ h.members := by simpa using hz
    have : a ≠ z := fun e => hz' (e ▸ ha a hm)
    simp [this]
  rw [this]
theorem drop_out {z : Int} {h : Hd} (hz : h.members.contains z = true) : out (drop z h) = true := by
  unfold out
  rw [List.any_eq_true]
  refine ⟨z, by simpa [drop] using hz, ?_⟩
  unfold drop
  simp
end Hld
end Go.Proofs.Ytfokbcakbbdlaaa
