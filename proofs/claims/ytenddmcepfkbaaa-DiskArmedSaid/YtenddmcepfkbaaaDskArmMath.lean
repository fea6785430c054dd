/- The mathematics of an armed disk beside one that is not. -/
import Derived.Test.YtenddmcepfkbaaaDskPrefHeld
namespace Go.Proofs.Ytenddmcepfkbaaa
open Go.RowKit

/-- A is armed as B is not; both hold the same. -/
def Arm (left x y : Int) (A B : Dsk.Dk) : Prop := A.st = B.st ∧ A.pd = B.pd ∧ A.off = false ∧ Calm B ∧ ((left < 0 ∧ A.armed = false) ∨ (0 ≤ left ∧ A.armed = true ∧ A.aft = left ∧ A.tw = x ∧ A.tb = y))
theorem arm_start {D : Dsk.Dk} (h : Calm D) (k x y : Int) : Arm k x y (Dsk.armD D k x y) D := by
  have e : Dsk.armD D k x y = { D with armed := decide (0 ≤ k), aft := k, tw := x, tb := y } := by unfold Dsk.armD; rw [h.1]; rfl
  rw [e]
  refine ⟨rfl, rfl, h.1, h, ?_⟩
  by_cases hk : 0 ≤ k
  · exact Or.inr ⟨hk, decide_eq_true hk, rfl, rfl, rfl⟩
  · exact Or.inl ⟨by omega, decide_eq_false hk⟩
theorem fail_same {A B : Dsk.Dk} (hs : A.st = B.st) (hp : A.pd = B.pd) (ha : A.off = false) (hb : B.off = false) (x y : Int) : (Dsk.fail A x y).st = (Dsk.fail B x y).st ∧ (Dsk.fail A x y).pd = (Dsk.fail B x y).pd := by
  rw [fail_on_eq ha, fail_on_eq hb]
  simp only [hs, hp, and_self]
/-- Both survive, and one more call is gone, or the call at which the armed one turns off. -/
theorem arm_survive {k x y : Int} {A B : Dsk.Dk} (h : Arm k x y A B) (hk : k ≠ 0) : Dsk.surviveE A = 0 ∧ Arm (if 0 < k then k - 1 else k) x y (Dsk.surviveD A) B := by
  obtain ⟨h1, h2, h3, h4, h5⟩ := h
  unfold Dsk.surviveE Dsk.surviveD
  rcases h5 with ⟨hk0, ha⟩ | ⟨hk0, ha, hf, hw, hb⟩
  · rw [ha, if_neg (show ¬ 0 < k by omega)]
    exact ⟨rfl, h1, h2, h3, h4, Or.inl ⟨hk0, ha⟩⟩
  · have hp : 0 < A.aft := by omega
    rw [ha, if_pos (show 0 < k by omega)]
    simp only [if_true, if_pos hp]
    exact ⟨trivial, h1, h2, h3, h4, Or.inr ⟨by omega, rfl, by show A.aft - 1 = k - 1; omega, hw, hb⟩⟩
theorem arm_dies {x y : Int} {A B : Dsk.Dk} (h : Arm 0 x y A B) : Dsk.surviveE A = 18 ∧ (Dsk.surviveD A).st = (Dsk.fail B x y).st ∧ (Dsk.surviveD A).pd = (Dsk.fail B x y).pd := by
  obtain ⟨h1, h2, h3, h4, h5⟩ := h
  unfold Dsk.surviveE Dsk.surviveD
  rcases h5 with ⟨hk0, _⟩ | ⟨_, ha, hf, hw, hb⟩
  · omega
  · have hp : ¬ 0 < A.aft := by omega
    rw [ha]
    simp only [if_true, if_neg hp, hw, hb]
    exact ⟨trivial, fail_same h1 h2 h3 h4.1 x y⟩
theorem arm_added {k x y : Int} {A B : Dsk.Dk} (h : Arm k x y A B) (s : Int) (t : ByteArray) : Arm k x y (Dsk.added A s t) (Dsk.added B s t) := by
  obtain ⟨h1, h2, h3, h4, h5⟩ := h
  exact ⟨h1, by show A.pd ++ _ = B.pd ++ _; rw [h2], h3, h4, h5⟩
/-- A write that is no write. -/
theorem arm_write_no {n : Nat} {k x y : Int} {A B : Dsk.Dk} (h : Arm k x y A B) {s : Int} {t : ByteArray} (hv : (Dsk.has n s && (t.size == 64)) = false) :
    Dsk.writeE n A s t = 1 ∧ Dsk.writeD n A s t = A ∧ Dsk.writeE n B s t = 1 ∧ Dsk.writeD n B s t = B := by
  unfold Dsk.writeE Dsk.writeD
  rw [h.2.2.1, h.2.2.2.1.1, hv]
  exact ⟨rfl, rfl, rfl, rfl⟩
theorem arm_write_b {n : Nat} {k x y : Int} {A B : Dsk.Dk} (h : Arm k x y A B) {s : Int} {t : ByteArray} (hv : (Dsk.has n s && (t.size == 64)) = true) :
    Dsk.writeE n B s t = 0 ∧ Dsk.writeD n B s t = Dsk.added B s t := by
  have h1 := (calm_write (n := n) h.2.2.2.1 s t).2.2
  rw [hv] at h1
  exact ⟨h1.2, h1.1⟩
theorem arm_write {n : Nat} {k x y : Int} {A B : Dsk.Dk} (h : Arm k x y A B) {s : Int} {t : ByteArray} (hv : (Dsk.has n s && (t.size == 64)) = true) (hk : k ≠ 0) :
    Dsk.writeE n A s t = 0 ∧ Arm (if 0 < k then k - 1 else k) x y (Dsk.writeD n A s t) (Dsk.added B s t) := by
  have h1 := arm_survive h hk
  have h2 := arm_survive (arm_added h s t) hk
  unfold Dsk.writeE Dsk.writeD
  rw [h.2.2.1, hv]
  exact ⟨h1.1, h2.2⟩
theorem arm_write_dies {n : Nat} {x y : Int} {A B : Dsk.Dk} (h : Arm 0 x y A B) {s : Int} {t : ByteArray} (hv : (Dsk.has n s && (t.size == 64)) = true) :
    Dsk.writeE n A s t = 18 ∧ (Dsk.writeD n A s t).st = (Dsk.fail (Dsk.added B s t) x y).st ∧ (Dsk.writeD n A s t).pd = (Dsk.fail (Dsk.added B s t) x y).pd := by
  have h1 := arm_dies h
  have h2 := arm_dies (arm_added h s t)
  unfold Dsk.writeE Dsk.writeD
  rw [h.2.2.1, hv]
  exact ⟨h1.1, h2.2⟩
theorem arm_sync {k x y : Int} {A B : Dsk.Dk} (h : Arm k x y A B) (hk : k ≠ 0) : Dsk.syncE A = 0 ∧ Arm (if 0 < k then k - 1 else k) x y (Dsk.syncD A) (Dsk.syncD B) := by
  have h1 := arm_survive h hk
  have hb := calm_sync h.2.2.2.1
  unfold Dsk.syncE
  rw [hb.1]
  unfold Dsk.syncD
  rw [h.2.2.1]
  simp only [Bool.false_eq_true, if_false, h1.1, if_true]
  obtain ⟨g1, g2, g3, g4, g5⟩ := h1.2
  exact ⟨trivial, by show Dsk.settle _ _ = Dsk.settle _ _; rw [g1, g2], rfl, g3, g4, g5⟩
theorem arm_sync_dies {x y : Int} {A B : Dsk.Dk} (h : Arm 0 x y A B) : Dsk.syncE A = 18 ∧ (Dsk.syncD A).st = (Dsk.fail B x y).st ∧ (Dsk.syncD A).pd = (Dsk.fail B x y).pd := by
  have h1 := arm_dies h
  unfold Dsk.syncE Dsk.syncD
  rw [h.2.2.1]
  simp only [Bool.false_eq_true, if_false, h1.1]
  rw [if_neg (by decide)]
  exact ⟨trivial, h1.2⟩
/-- What is seen after both are started. -/
theorem arm_seen (n : Nat) {A B : Dsk.Dk} (hs : A.st = B.st) (hp : A.pd = B.pd) : seenL (Dsk.startD A) n = seenL (Dsk.startD B) n := seenL_same n hs hp

end Go.Proofs.Ytenddmcepfkbaaa
