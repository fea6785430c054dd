/- The library's stable sort and copy of a list of parts; the sorted list. -/
import Derived.Test.YtijnnfioggjaeaaDoorMonIns
import Derived.ArgAppend
import Derived.Laws.OwnMore
namespace Go.Proofs.YtijnnfioggjaeaaDoor
open Go.RowKit

set_option maxHeartbeats 2000000 in
theorem stable_any (l : List Mon.Part) (n : Nat) (hn : n = l.length) (hn1 : 1 ≤ n) (hn2 : n ≤ 16) (hidx : l.Pairwise fun p s => p.i < s.i) (g cap b : Nat) (w : World) (hp : Parts w g l) (hgb : b ≠ g) (hg : g < w.heap.size)
    (hb : w.cell? ⟨b, 0, none⟩ = some (.func (.func 20) #[] #[])) :
    Calls Tryd.prog 29 #[.slice (some ⟨g, 0, none⟩) n cap, .int .i64 n, .func (.func 27) #[] #[.pointer (some ⟨b, 0, none⟩)]] w
      fun e w' => (∃ v, e = .returned v) ∧ w.grownBy w' (some g) ∧ ∃ L : List Mon.Part, L.Perm l ∧ L.Pairwise Mon.ord ∧ Parts w' g L := by
  have K := Lib.hid (ins_any l n hn hn1 hn2 hidx g cap b w hp hgb hg hb)
  clear hn hidx hp hb
  have h1 : ¬ (20 : Int) ≤ n := by omega
  have h2 : ¬ (20 : Int) < n := by omega
  go_enter Tryd.func29, Tryd.ntmps29
  go_wp2
  go_loop [7, 8] (fun a c => a = .int .i64 0 ∧ c = .int .i64 20) (fun _ _ => 0)
  case atStart => exact ⟨rfl, rfl⟩
  case round =>
    obtain ⟨rfl, rfl⟩ := hrel
    go_wp2_with fail
    refine K.out.mono ?_
    rintro e w1 ⟨⟨v, rfl⟩, hgr, HL⟩
    have HG := Lib.hid hgr
    have HL' := Lib.hid HL
    clear hgr HL
    go_wp2
    go_loop [6] (fun a => a = .int .i64 20) (fun _ => 0)
    case atStart => rfl
    case round =>
      subst hrel
      go_wp2
      go_end0
      exact ⟨⟨_, rfl⟩, HG.out, HL'.out⟩

theorem sortStable_any (l : List Mon.Part) (n : Nat) (hn : n = l.length) (hn1 : 1 ≤ n) (hn2 : n ≤ 16) (hidx : l.Pairwise fun p s => p.i < s.i) (g cap b : Nat) (w : World) (hp : Parts w g l) (hgb : b ≠ g) (hg : g < w.heap.size)
    (hb : w.cell? ⟨b, 0, none⟩ = some (.func (.func 20) #[] #[])) :
    Calls Tryd.prog 26 #[.slice (some ⟨g, 0, none⟩) n cap, .func (.func 27) #[] #[.pointer (some ⟨b, 0, none⟩)]] w
      fun e w' => (∃ v, e = .returned v) ∧ w.grownBy w' (some g) ∧ ∃ L : List Mon.Part, L.Perm l ∧ L.Pairwise Mon.ord ∧ Parts w' g L := by
  have K := Lib.hid (stable_any l n hn hn1 hn2 hidx g cap b w hp hgb hg hb)
  clear hn hidx hp hb
  go_enter Tryd.func26, Tryd.ntmps26
  go_wp2_with fail
  refine K.out.mono ?_
  rintro e w1 ⟨⟨v, rfl⟩, hgr, HL⟩
  have HG := Lib.hid hgr
  have HL' := Lib.hid HL
  clear hgr HL
  go_wp2
  go_end0
  exact ⟨⟨_, rfl⟩, HG.out, HL'.out⟩

/-- The cells of a list of parts. -/
def flatP : List Mon.Part → List Value
  | [] => []
  | p :: l => .int .i64 p.i :: .int .i64 p.q :: .int .u64 p.r :: flatP l
theorem flatP_len : ∀ l : List Mon.Part, (flatP l).length = l.length * 3
  | [] => rfl
  | p :: l => by simp only [flatP, List.length_cons, flatP_len l]; omega
theorem flatP_one : ∀ (l : List Mon.Part), ∀ u ∈ flatP l, u.oneCell' = true
  | [], u, h => by simp [flatP] at h
  | p :: l, u, h => by
    simp only [flatP, List.mem_cons] at h
    rcases h with rfl | rfl | rfl | h
    · rfl
    · rfl
    · rfl
    · exact flatP_one l u h
theorem flatP_append : ∀ (l m : List Mon.Part), flatP (l ++ m) = flatP l ++ flatP m
  | [], m => rfl
  | p :: l, m => by simp only [List.cons_append, flatP, flatP_append l m]
theorem flatP_get : ∀ (l : List Mon.Part) (k : Nat) (h : k < l.length), (flatP l)[k * 3]? = some (.int .i64 l[k].i) ∧ (flatP l)[k * 3 + 1]? = some (.int .i64 l[k].q) ∧ (flatP l)[k * 3 + 2]? = some (.int .u64 l[k].r)
  | [], k, h => by simp at h
  | p :: l, 0, h => ⟨rfl, rfl, rfl⟩
  | p :: l, k + 1, h => by
    have ih := flatP_get l k (by simpa using h)
    rw [show (k + 1) * 3 = k * 3 + 1 + 1 + 1 by omega]
    simpa [flatP] using ih
theorem Parts.flat {W : World} {g : Nat} {l : List Mon.Part} (h : Parts W g l) : ∀ j u, (flatP l)[j]? = some u → W.cell? ((⟨g, 0, none⟩ : Addr).add j) = some u := by
  intro j u hu
  have hj : j < l.length * 3 := by rw [← flatP_len]; exact (List.getElem?_eq_some_iff.1 hu).1
  have e : (⟨g, 0, none⟩ : Addr).add j = ⟨g, j, none⟩ := by unfold Addr.add; split <;> simp_all
  rw [e]
  obtain ⟨⟨h1, h2, h3⟩, _⟩ := h (j / 3) (by omega)
  obtain ⟨f1, f2, f3⟩ := flatP_get l (j / 3) (by omega)
  have hc : j = j / 3 * 3 ∨ j = j / 3 * 3 + 1 ∨ j = j / 3 * 3 + 2 := by omega
  rcases hc with hc | hc | hc
  · rw [← hc] at h1 f1; rw [f1] at hu; cases hu; exact h1
  · rw [← hc] at h2 f2; rw [f2] at hu; cases hu; exact h2
  · rw [← hc] at h3 f3; rw [f3] at hu; cases hu; exact h3
theorem parts_of_owns {W : World} {base : Nat} {e : TypeId} {g cap : Nat} {l : List Mon.Part} (h : W.ownsRow base e 3 (.slice (some ⟨g, 0, none⟩) l.length cap) l.length (flatP l)) : Parts W g l := by
  intro k hk
  obtain ⟨f1, f2, f3⟩ := flatP_get l k hk
  rw [h.cellAt _ (by omega), h.cellAt _ (by omega), h.cellAt _ (by omega), h.frozenAt, h.frozenAt, h.frozenAt]
  exact ⟨⟨f1, f2, f3⟩, rfl, rfl, rfl⟩
theorem Parts.below {W W' : World} {g : Nat} {l : List Mon.Part} (h : Parts W g l) (hb : Below W.heap.size W W') : Parts W' g l := by
  intro k hk
  obtain ⟨⟨h1, h2, h3⟩, h4, h5, h6⟩ := h k hk
  have hlt := lt_of_cell h1
  exact ⟨⟨(hb.cell (p := ⟨g, k * 3, none⟩) hlt).trans h1, (hb.cell (p := ⟨g, k * 3 + 1, none⟩) hlt).trans h2, (hb.cell (p := ⟨g, k * 3 + 2, none⟩) hlt).trans h3⟩,
    (hb.frozen (p := ⟨g, k * 3, none⟩) hlt).trans h4, (hb.frozen (p := ⟨g, k * 3 + 1, none⟩) hlt).trans h5, (hb.frozen (p := ⟨g, k * 3 + 2, none⟩) hlt).trans h6⟩
theorem info_part : (Tryd.prog.info? 42).map (fun i => (i.zero, i.size, i.bytes)) = some (some (.agg #[.int .i64 0, .int .i64 0, .int .u64 0]), 3, 24) := by kernel_rfl

theorem ownsRow_succ' {W : World} {base : Nat} {e : TypeId} {size : Nat} {v : Value} {k : Nat} {xs : List Value} (h : W.ownsRow base e size v (k + 1) xs) : ∃ g cap, v = .slice (some ⟨g, 0, none⟩) (k + 1) cap := by
  rcases h.2 with ⟨_, h0⟩ | ⟨g, cap, _, rfl, _⟩
  · omega
  · exact ⟨g, cap, rfl⟩
set_option maxHeartbeats 2000000 in
theorem clone_any (l : List Mon.Part) (n : Nat) (hn : n = l.length) (hn1 : 1 ≤ n) (hn2 : n ≤ 16) (g cap : Nat) (w : World) (hp : Parts w g l) :
    Calls Tryd.prog 25 #[.slice (some ⟨g, 0, none⟩) n cap] w
      fun e w' => ∃ g' cap', e = .returned (.slice (some ⟨g', 0, none⟩) n cap') ∧ Below w.heap.size w w' ∧ w.heap.size ≤ g' ∧ g' < w'.heap.size ∧ Parts w' g' l := by
  obtain ⟨i0, hi, hz0, hz1, hz2⟩ := info_parts info_part
  have HP := Lib.hid hp
  have Hn := Lib.hid hn
  clear hp hn
  have hnil := fun w => Lib.run_eql_slice_nil (P := Tryd.prog) w 40 42 (some ⟨g, 0, none⟩) n cap 0 0 Tryd.underlying40
  have HF : Hid ((flatP l).length = n * 3) := Lib.hid (by rw [flatP_len, ← Hn.out])
  have HC : Hid (∀ j u, (flatP l)[j]? = some u → (w.alloc (.cells #[] 42)).cell? ((⟨g, 0, none⟩ : Addr).add j) = some u) := Lib.hid (HP.out.below ((Below.refl _ _).alloc (Nat.le_refl _) _)).flat
  obtain ⟨n0, rfl⟩ : ∃ n0, n = n0 + 1 := ⟨n - 1, by omega⟩
  go_enter Tryd.func25, Tryd.ntmps25
  go_wp2_with (at_builtin; refine wpList_append_grows _ rfl _ _ 40 rfl 42 i0 (.agg #[.int .i64 0, .int .i64 0, .int .u64 0]) 3 24 Tryd.underlying40 hi hz0 hz1 hz2 rfl (by decide) (some ⟨w.heap.size, 0, none⟩) 0 0 [] rfl (by simp) rfl (by intro b _ j u hu; simp at hu) ⟨g, 0, none⟩ (n0 + 1) cap (flatP l) rfl HF.out HC.out (flatP_one l) (by omega) (by unfold maxLen; omega) (by omega) ?_; intro v' w1 hown hgr)
  simp only [Nat.zero_add, List.nil_append] at hown
  have hlt := hown.lt
  obtain ⟨g', cap', rfl⟩ := ownsRow_succ' hown
  have hl := hlt g' rfl
  rw [size_alloc] at hl
  go_ret
  refine ⟨g', cap', rfl, ((Below.refl _ _).alloc (Nat.le_refl _) _).grown hgr (by rw [size_alloc]; omega) (fun k e => by cases e), by omega, hl.2, ?_⟩
  have Hn' := Hn.out
  refine parts_of_owns (cap := cap') (base := (w.alloc (Obj.cells #[] 42)).heap.size) (e := 42) ?_
  rw [← Hn']
  exact hown

set_option maxHeartbeats 2000000 in
theorem sorted_any (l : List Mon.Part) (n : Nat) (hn : n = l.length) (hn1 : 1 ≤ n) (hn2 : n ≤ 16) (hidx : l.Pairwise fun p s => p.i < s.i) (g cap : Nat) (w : World) (hp : Parts w g l) (hg : g < w.heap.size) :
    Calls Tryd.prog 19 #[.slice (some ⟨g, 0, none⟩) n cap, .func (.func 20) #[] #[]] w
      fun e w' => ∃ g' cap', e = .returned (.slice (some ⟨g', 0, none⟩) n cap') ∧ Below w.heap.size w w' ∧ w.heap.size ≤ g' ∧ g' < w'.heap.size ∧ ∃ L : List Mon.Part, L.Perm l ∧ L.Pairwise Mon.ord ∧ Parts w' g' L := by
  have HP := Lib.hid hp
  have Hn := Lib.hid hn
  have HI := Lib.hid hidx
  clear hp hn hidx
  have HB0 : Hid (Below w.heap.size w (w.alloc (.cells #[.func (.func 20) #[] #[]] 44))) := Lib.hid ((Below.refl _ _).alloc (Nat.le_refl _) _)
  have KC := Lib.hid (clone_any l n Hn.out hn1 hn2 g cap (w.alloc (.cells #[.func (.func 20) #[] #[]] 44)) (HP.out.below HB0.out))
  have f0 : (w.alloc (.cells #[.func (.func 20) #[] #[]] 44)).cell? ⟨w.heap.size, 0, none⟩ = some (.func (.func 20) #[] #[]) := by rw [cell_alloc, if_pos rfl]; rfl
  go_enter Tryd.func19, Tryd.ntmps19
  go_wp2_with fail
  refine KC.out.mono ?_
  rintro e w1 ⟨g', cap', rfl, hb1, hg1, hg2, hP1⟩
  rw [size_alloc] at hg1
  have f1 : w1.cell? ⟨w.heap.size, 0, none⟩ = some (.func (.func 20) #[] #[]) := by rw [hb1.cell (by rw [size_alloc]; show w.heap.size < _; omega), f0]
  have HB1 : Hid (Below w.heap.size w w1) := Lib.hid (HB0.out.trans (hb1.mono (by rw [size_alloc]; omega)))
  have KS := Lib.hid (sortStable_any l n Hn.out hn1 hn2 HI.out g' cap' w.heap.size w1 hP1 (by omega) hg2 f1)
  clear f0 f1 hb1 hP1
  go_wp2_with fail
  refine KS.out.mono ?_
  rintro e w2 ⟨⟨v, rfl⟩, hgr, HL⟩
  have HL' := Lib.hid HL
  have HG := Lib.hid hgr
  clear HL hgr
  go_wp2
  go_ret
  have z1 := HB1.out.size
  exact ⟨g', cap', rfl, HB1.out.grown HG.out z1 (fun k e => by cases e; omega), by omega, Nat.lt_of_lt_of_le hg2 HG.out.size, HL'.out⟩

end Go.Proofs.YtijnnfioggjaeaaDoor
