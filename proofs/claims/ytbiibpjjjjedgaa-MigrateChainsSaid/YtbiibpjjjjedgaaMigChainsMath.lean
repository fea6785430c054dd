/- What a chain of limits comes to, cut in two. -/
import Derived.Test.YtbiibpjjjjedgaaMigMath
namespace Go.Proofs.Ytbiibpjjjjedgaa.Mig

theorem chain_cases (l h : Int) (zs : List Int) : ((chain l h zs).2.2 ≠ 0 ∧ (chain l h zs).1 = 0 ∧ (chain l h zs).2.1 = 0) ∨
    (chainOk l h zs = true ∧ ∃ t, run (l, h) (pairs zs (zs.length - 1)) = some t ∧ chain l h zs = (t.1, t.2, 0)) := by
  unfold chain
  cases hk : chainOk l h zs
  · left; simp
  · cases hr : run (l, h) (pairs zs (zs.length - 1)) with
    | none => left; simp
    | some t => right; exact ⟨rfl, t, rfl, by simp⟩
theorem chain_of {l h : Int} {zs : List Int} {t : Int × Int} (hk : chainOk l h zs = true) (hr : run (l, h) (pairs zs (zs.length - 1)) = some t) : chain l h zs = (t.1, t.2, 0) := by
  unfold chain
  rw [if_pos hk, hr]
theorem getD_mem {zs : List Int} {k : Nat} (h : k < zs.length) : zs[k]?.getD 0 ∈ zs := by
  rw [List.getElem?_eq_getElem h]; exact List.getElem_mem _

/-- A chain that fits, cut at any limit, and made in one step. -/
theorem chain_cut {l h : Int} {zs : List Int} (he : (chain l h zs).2.2 = 0) {k : Nat} (hk : k < zs.length) :
    ∃ f0 f1, chain l h (zs.take (k + 1)) = (f0, f1, 0) ∧ chain f0 f1 (zs.drop k) = chain l h zs ∧
      err l h (zs[0]?.getD 0) (zs[zs.length - 1]?.getD 0) = 0 ∧ (chain l h zs).1 ≤ lo l h (zs[0]?.getD 0) (zs[zs.length - 1]?.getD 0) ∧ hi l h (zs[0]?.getD 0) (zs[zs.length - 1]?.getD 0) ≤ (chain l h zs).2.1 := by
  rcases chain_cases l h zs with h1 | ⟨hok, t, hr, hc⟩
  · exact absurd he h1.1
  obtain ⟨hu, n1, n2, hz⟩ := chainOk_iff.1 hok
  have hz1 : ∀ z ∈ zs, 1 ≤ z := fun z hm => (hz z hm).1
  have esplit : pairs zs (zs.length - 1) = pairs zs k ++ pairs (zs.drop k) (zs.length - 1 - k) := by
    rw [← pairs_add]; congr 1; omega
  have hr2 := hr
  rw [esplit, run_append] at hr2
  cases hf : run (l, h) (pairs zs k) with
  | none => rw [hf] at hr2; cases hr2
  | some f =>
    rw [hf] at hr2
    have hr3 : run f (pairs (zs.drop k) (zs.length - 1 - k)) = some t := hr2
    have huf := run_used (s := (l, h)) hu (pairs_pos hz1 (Or.inl (by omega))) hf
    have hut := run_used (s := (l, h)) hu (pairs_pos hz1 (Or.inl (by omega))) hr
    refine ⟨f.1, f.2, ?_, ?_, ?_⟩
    · refine chain_of (chainOk_iff.2 ⟨hu, ?_, ?_, fun z hm => hz z (List.mem_of_mem_take hm)⟩) ?_
      · rw [List.length_take]; omega
      · rw [List.length_take]; omega
      · rw [List.length_take, show min (k + 1) zs.length - 1 = k by omega, pairs_take zs k (k + 1) (by omega)]; exact hf
    · rw [hc]
      refine chain_of (chainOk_iff.2 ⟨huf, ?_, ?_, fun z hm => hz z (List.mem_of_mem_drop hm)⟩) ?_
      · rw [List.length_drop]; omega
      · rw [List.length_drop]; omega
      · rw [List.length_drop, show zs.length - k - 1 = zs.length - 1 - k by omega]; exact hr3
    · obtain ⟨o1, o2⟩ := run_one (s := (l, h)) hu.1 hz1 (k := zs.length - 1) (by omega) hr
      have hfit : up h (zs[0]?.getD 0) (zs[zs.length - 1]?.getD 0) ≤ 1000000000000 := by have := hut.2.2; dsimp only at o2; omega
      have he1 : err l h (zs[0]?.getD 0) (zs[zs.length - 1]?.getD 0) = 0 := err_iff.2 ⟨ok_iff.2 ⟨hu, hz _ (getD_mem (by omega)), hz _ (getD_mem (by omega))⟩, hfit⟩
      refine ⟨he1, ?_⟩
      unfold lo hi
      rw [if_pos he1, if_pos he1, hc]
      exact ⟨o1, o2⟩

end Go.Proofs.Ytbiibpjjjjedgaa.Mig
