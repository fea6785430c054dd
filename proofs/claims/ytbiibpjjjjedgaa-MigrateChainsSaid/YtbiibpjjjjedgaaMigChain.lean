/- The walk of migrate.Chain: a loop over an iterator of pairs. -/
import Derived.Test.YtbiibpjjjjedgaaMigWalksB
import Derived.Test.YtbiibpjjjjedgaaMigSeq
import Derived.Test.YtbiibpjjjjedgaaOpenSl
import Derived.RangeFuncWrites
namespace Go.Proofs.Ytbiibpjjjjedgaa
open Go.RowKit Go.Shelf

attribute [local go_sem] Oper.semAt_some

theorem grown_drew (w : World) (row : Option Nat) : w.grownBy w.drew row := ⟨rfl, rfl, rfl, Nat.le_refl _, fun _ _ _ => rfl⟩
theorem pairs_stops (F : Fence) (n : Nat) (hf : F.fn 48) (hro : F.round = none) (hn : 1 ≤ n) (Bs n₀ b off cap : Nat) (zs : List Int) (hlen : 1 ≤ zs.length) (hreach : zs.length ≤ 1000) (hb : b < n₀) (w : World) (hBs : Bs < w.heap.size) (hn₀ : n₀ ≤ w.heap.size)
    (hcb : w.cell? ⟨Bs, 0, none⟩ = some (.slice (some ⟨b, off, none⟩) zs.length cap)) (hc : ∀ j, j < zs.length → w.cell? ⟨b, off + j, none⟩ = some (.int .i64 (zs[j]?.getD 0))) :
    SeqStopsK F n Try.prog 48 #[.pointer (some ⟨Bs, 0, none⟩)] (fun x : Int × Int => #[Value.int .i64 x.1, Value.int .i64 x.2]) (KpP n₀ Bs) (fun ys => ys = Mig.pairs zs (zs.length - 1))
      (fun pre => ∃ k, k ≤ zs.length - 1 ∧ pre = Mig.pairs zs k) (zs.length - 1) w := fun l J Jx W hW hJ _ hY h0 =>
  pairs1_in F n hf hro hn l Bs n₀ b off zs.length cap zs hlen hreach hb J Jx hY (fun pre W1 h => hJ pre W1 _ none h (grown_drew _ _) (fun r e => by cases e)) W
    ((hW.cell (p := ⟨Bs, 0, none⟩) hBs).trans hcb) (fun j hj => (hW.cell (p := ⟨b, off + j, none⟩) (Nat.lt_of_lt_of_le hb hn₀)).trans (hc j hj)) h0

theorem kp_b {n₀ Bs : Nat} {w : World} (hn : n₀ ≤ w.heap.size) (hBs : Bs < w.heap.size) (W : World) (l : Nat) (o o' : Obj) (hl : w.heap.size ≤ l) (h : W.heap[l]? = some o) (hc : o.isCells = false) (hk : o.isWalk = false) : KpP n₀ Bs W (W.putObj l o') :=
  ⟨belowK_b hn W l o o' hl h hc hk, World.cell?_of_block (a := ⟨Bs, 0, none⟩) (World.putObj_heap_other (show Bs ≠ l by omega))⟩

/-- The cells of Chain's own: the life, the result's two parts. -/
def Cells5 (W : World) (b : Nat) (x0 x1 y0 y1 z : Int) : Prop :=
  (W.cell? ⟨b, 0, none⟩ = some (.int .i64 x0) ∧ W.cell? ⟨b, 1, none⟩ = some (.int .i64 x1)) ∧ (W.cell? ⟨b + 1, 0, none⟩ = some (.int .i64 y0) ∧ W.cell? ⟨b + 1, 1, none⟩ = some (.int .i64 y1)) ∧ W.cell? ⟨b + 2, 0, none⟩ = some (.int .i64 z) ∧
  (W.frozen? ⟨b, 0, none⟩ = false ∧ W.frozen? ⟨b, 1, none⟩ = false) ∧ (W.frozen? ⟨b + 1, 0, none⟩ = false ∧ W.frozen? ⟨b + 1, 1, none⟩ = false) ∧ W.frozen? ⟨b + 2, 0, none⟩ = false
theorem Cells5.kept {A B : World} {b : Nat} {x0 x1 y0 y1 z : Int} {row : Option Nat} (h : Cells5 A b x0 x1 y0 y1 z) (hg : A.grownBy B row) (hr : ∀ r, row = some r → ∃ o : Obj, A.heap[r]? = some o ∧ o.isCells = false) : Cells5 B b x0 x1 y0 y1 z := by
  obtain ⟨⟨h1, h2⟩, ⟨h3, h4⟩, h5, ⟨h6, h7⟩, ⟨h8, h9⟩, h10⟩ := h
  exact ⟨⟨cell_kept h1 hg hr, cell_kept h2 hg hr⟩, ⟨cell_kept h3 hg hr, cell_kept h4 hg hr⟩, cell_kept h5 hg hr, ⟨(frozen_kept h1 hg hr).trans h6, (frozen_kept h2 hg hr).trans h7⟩, ⟨(frozen_kept h3 hg hr).trans h8, (frozen_kept h4 hg hr).trans h9⟩, (frozen_kept h5 hg hr).trans h10⟩
theorem Cells5.below {A B : World} {b : Nat} {x0 x1 y0 y1 z : Int} (h : Cells5 A b x0 x1 y0 y1 z) (hb : Below A.heap.size A B) : Cells5 B b x0 x1 y0 y1 z := by
  obtain ⟨⟨h1, h2⟩, ⟨h3, h4⟩, h5, ⟨h6, h7⟩, ⟨h8, h9⟩, h10⟩ := h
  have l1 := lt_of_cell h1
  have l3 := lt_of_cell h3
  have l5 := lt_of_cell h5
  exact ⟨⟨(hb.cell (p := ⟨b, 0, none⟩) l1).trans h1, (hb.cell (p := ⟨b, 1, none⟩) l1).trans h2⟩, ⟨(hb.cell (p := ⟨b + 1, 0, none⟩) l3).trans h3, (hb.cell (p := ⟨b + 1, 1, none⟩) l3).trans h4⟩, (hb.cell (p := ⟨b + 2, 0, none⟩) l5).trans h5,
    ⟨(hb.frozen (p := ⟨b, 0, none⟩) l1).trans h6, (hb.frozen (p := ⟨b, 1, none⟩) l1).trans h7⟩, ⟨(hb.frozen (p := ⟨b + 1, 0, none⟩) l3).trans h8, (hb.frozen (p := ⟨b + 1, 1, none⟩) l3).trans h9⟩, (hb.frozen (p := ⟨b + 2, 0, none⟩) l5).trans h10⟩
theorem Cells5.life {A : World} {b : Nat} {x0 x1 y0 y1 z : Int} (h : Cells5 A b x0 x1 y0 y1 z) (u v : Int) : Cells5 ((A.setCell ⟨b, 0, none⟩ (.int .i64 u)).setCell ⟨b, 1, none⟩ (.int .i64 v)) b u v y0 y1 z := by
  obtain ⟨⟨h1, h2⟩, ⟨h3, h4⟩, h5, ⟨h6, h7⟩, ⟨h8, h9⟩, h10⟩ := h
  have e1 : (A.setCell ⟨b, 0, none⟩ (.int .i64 u)).cell? ⟨b, 1, none⟩ = some (.int .i64 x1) := by rw [World.cell?_setCell_other _ _ _ _ (by simp), h2]
  refine ⟨⟨?_, ?_⟩, ⟨?_, ?_⟩, ?_, ⟨?_, ?_⟩, ⟨?_, ?_⟩, ?_⟩
  · rw [World.cell?_setCell_other _ _ _ _ (by simp), World.cell?_setCell_same _ _ _ h1]
  · rw [World.cell?_setCell_same _ _ _ e1]
  · rw [World.cell?_setCell_other _ _ _ _ (by simp), World.cell?_setCell_other _ _ _ _ (by simp), h3]
  · rw [World.cell?_setCell_other _ _ _ _ (by simp), World.cell?_setCell_other _ _ _ _ (by simp), h4]
  · rw [World.cell?_setCell_other _ _ _ _ (by simp), World.cell?_setCell_other _ _ _ _ (by simp), h5]
  all_goals rw [World.frozen?_setCell, World.frozen?_setCell]; assumption
theorem Cells5.result {A : World} {b : Nat} {x0 x1 y0 y1 z : Int} (h : Cells5 A b x0 x1 y0 y1 z) (u v e : Int) : Cells5 (((A.setCell ⟨b + 1, 0, none⟩ (.int .i64 u)).setCell ⟨b + 1, 1, none⟩ (.int .i64 v)).setCell ⟨b + 1 + 1, 0, none⟩ (.int .i64 e)) b x0 x1 u v e := by
  obtain ⟨⟨h1, h2⟩, ⟨h3, h4⟩, h5, ⟨h6, h7⟩, ⟨h8, h9⟩, h10⟩ := h
  have e1 : (A.setCell ⟨b + 1, 0, none⟩ (.int .i64 u)).cell? ⟨b + 1, 1, none⟩ = some (.int .i64 y1) := by rw [World.cell?_setCell_other _ _ _ _ (by simp), h4]
  have e2 : ((A.setCell ⟨b + 1, 0, none⟩ (.int .i64 u)).setCell ⟨b + 1, 1, none⟩ (.int .i64 v)).cell? ⟨b + 1 + 1, 0, none⟩ = some (.int .i64 z) := by rw [World.cell?_setCell_other _ _ _ _ (by simp), World.cell?_setCell_other _ _ _ _ (by simp)]; exact h5
  refine ⟨⟨?_, ?_⟩, ⟨?_, ?_⟩, ?_, ⟨?_, ?_⟩, ⟨?_, ?_⟩, ?_⟩
  · rw [World.cell?_setCell_other _ _ _ _ (by simp), World.cell?_setCell_other _ _ _ _ (by simp), World.cell?_setCell_other _ _ _ _ (by simp), h1]
  · rw [World.cell?_setCell_other _ _ _ _ (by simp), World.cell?_setCell_other _ _ _ _ (by simp), World.cell?_setCell_other _ _ _ _ (by simp), h2]
  · rw [World.cell?_setCell_other _ _ _ _ (by simp), World.cell?_setCell_other _ _ _ _ (by simp), World.cell?_setCell_same _ _ _ h3]
  · rw [World.cell?_setCell_other _ _ _ _ (by simp), World.cell?_setCell_same _ _ _ e1]
  · exact World.cell?_setCell_same _ _ _ e2
  all_goals rw [World.frozen?_setCell, World.frozen?_setCell, World.frozen?_setCell]; assumption
theorem KeepsFrom.of_below {B : Nat} {W W' : World} (h : Below W.heap.size W W') : KeepsFrom B W W' :=
  ⟨h.size, fun k o _ hk _ => (h.block k (Array.getElem?_eq_some_iff.1 hk).1).trans hk⟩
/-- Between two rounds, and when a round has left. -/
def ChI (l h : Int) (b : Nat) (pre : List (Int × Int)) (W : World) : Prop := ∃ t, Mig.run (l, h) pre = some t ∧ Cells5 W b t.1 t.2 0 0 0
def ChX (l h : Int) (b : Nat) (c : Code) (pre : List (Int × Int)) (W : World) : Prop :=
  c = .ret ∧ ∃ ini x t u v, pre = ini ++ [x] ∧ Mig.run (l, h) ini = some t ∧ Mig.err t.1 t.2 x.1 x.2 ≠ 0 ∧ Cells5 W b u v 0 0 (Mig.err t.1 t.2 x.1 x.2)

theorem stop_err {l h : Int} {zs : List Int} {k : Nat} {pre ini : List (Int × Int)} {x1 x2 t1 t2 : Int} (hu : Mig.usedB l h = true) (hp : ∀ z ∈ zs, 1 ≤ z ∧ z ≤ 1000000000000)
    (hok : Mig.chain l h zs = (match Mig.run (l, h) (Mig.pairs zs (zs.length - 1)) with | some t => (t.1, t.2, 0) | none => (0, 0, 7)))
    (hk : k ≤ zs.length - 1) (hpre : pre = Mig.pairs zs k) (hini : pre = ini ++ [(x1, x2)]) (hrun : Mig.run (l, h) ini = some (t1, t2)) (hne : Mig.err t1 t2 x1 x2 ≠ 0) : Mig.chain l h zs = (0, 0, 7) ∧ Mig.err t1 t2 x1 x2 = 7 := by
  cases k with
  | zero => rw [hpre] at hini; have := congrArg List.length hini; simp [Mig.pairs] at this
  | succ k =>
    rw [hpre, Mig.pairs_succ] at hini
    obtain ⟨rfl, e⟩ := List.append_inj' hini rfl
    have h1 : k + 1 < zs.length := by omega
    have h0 : k < zs.length := by omega
    simp only [List.getElem?_eq_getElem h1, List.getElem?_eq_getElem h0, Option.getD_some, List.cons.injEq, Prod.mk.injEq, and_true] at e
    have p1 := hp x1 (by rw [← e.1]; exact List.getElem_mem _)
    have p2 := hp x2 (by rw [← e.2]; exact List.getElem_mem _)
    have ht := Mig.run_used (Mig.used_iff.1 hu) (Mig.pairs_pos (fun z hz => (hp z hz).1) (k := k) (Or.inl (by omega))) hrun
    have hokB : Mig.okB t1 t2 x1 x2 = true := Mig.ok_iff.2 ⟨ht, p1, p2⟩
    rcases Mig.err_cases t1 t2 x1 x2 with ⟨h2, _⟩ | h2 | h2
    · rw [hokB] at h2; cases h2
    · refine ⟨?_, h2.2.2.1⟩
      have hnone : Mig.run (l, h) (Mig.pairs zs (k + 1)) = none := by
        rw [Mig.pairs_succ, Mig.run_snoc hrun]
        simp only [List.getElem?_eq_getElem h1, List.getElem?_eq_getElem h0, Option.getD_some, e.1, e.2]
        rw [if_neg (by omega)]
      rw [hok, Mig.run_none_of hk hnone]
    · exact absurd h2.2.2.1 hne

set_option maxRecDepth 100000 in
set_option maxHeartbeats 8000000 in
theorem chain_good (l h : Int) (zs : List Int) (hu : Mig.usedB l h = true) (hlen1 : 1 ≤ zs.length) (hlen2 : zs.length ≤ 60) (b off cap : Nat) (w : World) (hb : b < w.heap.size)
    (hc : ∀ j, j < zs.length → w.cell? ⟨b, off + j, none⟩ = some (.int .i64 (zs[j]?.getD 0))) :
    CallsIn Fence.wide 6 Try.prog 13 #[.agg #[.int .i64 l, .int .i64 h], .slice (some ⟨b, off, none⟩) zs.length cap] w
      fun e w' => e = .returned (.tuple #[.agg #[.int .i64 (Mig.chain l h zs).1, .int .i64 (Mig.chain l h zs).2.1], .int .i64 (Mig.chain l h zs).2.2]) ∧ Below w.heap.size w w' := by
  have h1 : 1 ≤ 6 := by omega
  have hro : Fence.wide.round = none := rfl
  obtain ⟨len, Hlen⟩ : ∃ len, Hid (len = zs.length) := ⟨_, Lib.hid rfl⟩
  rw [← Hlen.out] at hlen1 hlen2 hc ⊢
  refine callsIn_of_wp_marks Try.func13 rfl trivial ?_ hro
  simp only [Try.ntmps13, List.size_toArray, List.length_cons, List.length_nil, Nat.reduceAdd, Nat.reduceSub, Array.replicate_succ, Array.replicate_zero, List.push_toArray, List.append_toArray, List.nil_append, List.cons_append]
  gi_wp2_with (refine ⟨trivial, ?_⟩; gi_at_call 28; refine (callsIn_wide.2 (isUsed_any _ _ _)).mono ?_; rintro e w1 ⟨rfl, hb1⟩)
  have hz := hb1.size
  simp only [size_alloc] at hz
  have hbw : Below w.heap.size w w1 := ((((Below.refl _ _).alloc (Nat.le_refl _) _).alloc (by simp only [size_alloc]; omega) _).alloc (by simp only [size_alloc]; omega) _).trans (hb1.mono (by simp only [size_alloc]; omega))
  obtain ⟨hcl, hfr⟩ := bcell hb1
  have f0 := hcl w.heap.size 0 (by simp only [size_alloc]; omega)
  have f1 := hcl w.heap.size 1 (by simp only [size_alloc]; omega)
  have f2 := hcl (w.heap.size + 1) 0 (by simp only [size_alloc]; omega)
  have f3 := hcl (w.heap.size + 1) 1 (by simp only [size_alloc]; omega)
  have f4 := hcl (w.heap.size + 2) 0 (by simp only [size_alloc]; omega)
  have g0 := hfr w.heap.size 0 (by simp only [size_alloc]; omega)
  have g1 := hfr w.heap.size 1 (by simp only [size_alloc]; omega)
  have g2 := hfr (w.heap.size + 1) 0 (by simp only [size_alloc]; omega)
  have g3 := hfr (w.heap.size + 1) 1 (by simp only [size_alloc]; omega)
  have g4 := hfr (w.heap.size + 2) 0 (by simp only [size_alloc]; omega)
  simp [cell_alloc, Nat.add_assoc] at f0 f1 f2 f3 f4
  simp [frozen_alloc, Nat.add_assoc] at g0 g1 g2 g3 g4
  have hc1 : ∀ j, j < len → w1.cell? ⟨b, off + j, none⟩ = some (.int .i64 (zs[j]?.getD 0)) := fun j hj => by rw [hbw.cell (p := ⟨b, off + j, none⟩) hb]; exact hc j hj
  clear hb1 hcl hfr hc
  gi_loop [27] (fun i => ∃ k : Nat, k ≤ len ∧ i = .int .i64 k ∧ Hid (∀ z ∈ zs.take k, Mig.limB z = true)) (fun i => len - (intOf i).toNat)
  case atStart => exact ⟨0, by omega, rfl, Lib.hid (by simp)⟩
  case round =>
    obtain ⟨k, hk, rfl, Hk⟩ := hrel
    by_cases hlt : k < len
    · have hck := hc1 k hlt
      have hkz : k < zs.length := by rw [← Hlen.out]; exact hlt
      obtain ⟨z, Hz⟩ : ∃ z, Hid (z = zs[k]?.getD 0) := ⟨_, Lib.hid rfl⟩
      rw [← Hz.out] at hck
      have Hmem : Hid (z ∈ zs) := Lib.hid (by rw [Hz.out, List.getElem?_eq_getElem hkz]; exact List.getElem_mem _)
      have Htake : Hid (zs.take (k + 1) = zs.take k ++ [z]) := Lib.hid (by rw [List.take_succ_eq_append_getElem hkz, Hz.out, List.getElem?_eq_getElem hkz]; rfl)
      cases hl : Mig.limB z
      · have Hbad : Hid (Mig.chain l h zs = (0, 0, 1)) := Lib.hid (by
          unfold Mig.chain
          rw [if_neg]
          intro hh
          have := (Mig.chainOk_iff.1 hh).2.2.2 z Hmem.out
          rw [Mig.lim_iff.2 this] at hl
          cases hl)
        clear hc1
        gi_wp2_with (refine ⟨trivial, ?_⟩; gi_at_call 29; refine (callsIn_wide.2 (isLimit_any _ _)).mono ?_; rintro e w2 ⟨rfl, rfl⟩)
        refine ⟨.tuple #[.agg #[.int .i64 0, .int .i64 0], .int .i64 1], by simp [results, Try.f13, go_sem, f2, f3, f4], by rw [Hbad.out], ?_⟩
        exact ((hbw.setCell (by show w.heap.size ≤ w.heap.size + 1; omega) _).setCell (by show w.heap.size ≤ w.heap.size + 1; omega) _).setCell (by show w.heap.size ≤ w.heap.size + 1 + 1; omega) _
      · clear hc1
        gi_wp2_with (refine ⟨trivial, ?_⟩; gi_at_call 29; refine (callsIn_wide.2 (isLimit_any _ _)).mono ?_; rintro e w2 ⟨rfl, rfl⟩)
        go_round
        case rel => exact ⟨k + 1, by omega, by go_num, Lib.hid (fun x hx => by
          rw [Htake.out] at hx
          rcases List.mem_append.1 hx with h1 | h1
          · exact Hk.out x h1
          · rw [List.mem_singleton.1 h1]; exact hl)⟩
        case measure => simp [intOf]; omega
    · obtain rfl : len = k := by omega
      have Hok : Hid (Mig.chain l h zs = (match Mig.run (l, h) (Mig.pairs zs (zs.length - 1)) with | some t => (t.1, t.2, 0) | none => (0, 0, 7))) := Lib.hid (by
        unfold Mig.chain
        refine if_pos (Mig.chainOk_iff.2 ⟨Mig.used_iff.1 hu, by rw [← Hlen.out]; exact hlen1, by rw [← Hlen.out]; exact hlen2, fun z hz => Mig.lim_iff.1 (Hk.out z (by rw [Hlen.out, List.take_length]; exact hz))⟩))
      have Hpos : Hid (∀ z ∈ zs, 1 ≤ z ∧ z ≤ 1000000000000) := Lib.hid (fun z hz => Mig.lim_iff.1 (Hk.out z (by rw [Hlen.out, List.take_length]; exact hz)))
      have Hc1 := Lib.hid hc1
      clear Hk hc1
      gi_wp2_with (refine ⟨trivial, ?_⟩; gi_at_call 36; refine (pairs_any Fence.wide 5 trivial hro _ _ _ _).mono ?_; rintro e w2 ⟨rfl, rfl⟩)
      have hC : Cells5 w1 w.heap.size l h 0 0 0 := ⟨⟨f0, f1⟩, ⟨f2, f3⟩, f4, ⟨g0, g1⟩, ⟨g2, g3⟩, g4⟩
      have hC2 := hC.below ((Below.refl w1.heap.size w1).alloc (Nat.le_refl _) (.cells #[.slice (some ⟨b, off, none⟩) len cap] 24))
      have hBox : (w1.alloc (.cells #[.slice (some ⟨b, off, none⟩) len cap] 24)).cell? ⟨w1.heap.size, 0, none⟩ = some (.slice (some ⟨b, off, none⟩) zs.length cap) := by rw [cell_alloc, if_pos rfl, ← Hlen.out]; rfl
      have hcz : ∀ j, j < zs.length → (w1.alloc (.cells #[.slice (some ⟨b, off, none⟩) len cap] 24)).cell? ⟨b, off + j, none⟩ = some (.int .i64 (zs[j]?.getD 0)) := fun j hj => by rw [cell_alloc, if_neg (by omega)]; exact Hc1.out j (by rw [Hlen.out]; exact hj)
      have hB2 : Below w.heap.size w (w1.alloc (.cells #[.slice (some ⟨b, off, none⟩) len cap] 24)) := hbw.alloc (by omega) _
      have hZ2 : (w1.alloc (.cells #[.slice (some ⟨b, off, none⟩) len cap] 24)).heap.size = w1.heap.size + 1 := size_alloc _ _
      obtain ⟨W2, HW2⟩ : ∃ W2, Hid (W2 = w1.alloc (.cells #[.slice (some ⟨b, off, none⟩) len cap] 24)) := ⟨_, Lib.hid rfl⟩
      rw [← HW2.out] at hC2 hBox hcz hB2 hZ2 ⊢
      clear hC f0 f1 f2 f3 f4 g0 g1 g2 g3 g4
      refine wpIn_rangeFunc_ownG hro h1 (gf := 48) (lb := #[.pointer (some ⟨w1.heap.size, 0, none⟩)]) rfl trivial (enters_of Try.func48 (by kernel_rfl) rfl)
        (pairs_stops Fence.wide 5 trivial hro (by omega) w1.heap.size w.heap.size b off cap zs (by rw [← Hlen.out]; exact hlen1) (by rw [← Hlen.out]; omega) hb W2 (by omega) (by omega) hBox hcz)
        KpP.trans (kp_b (by omega) (by omega)) (Below.refl _ _) (fun _ => rfl)
        (fun pre W => ChI l h w.heap.size pre W ∧ Below w.heap.size W2 W) (fun c pre W => ChX l h w.heap.size c pre W ∧ Below w.heap.size W2 W)
        (OwnFrom.and (Own.from (fun s A B row hs hg hr => by obtain ⟨t, h1, h2⟩ := hs; exact ⟨t, h1, h2.kept hg hr⟩) _) (ownFrom_below (by omega) (by omega)))
        (fun c => OwnFrom.and (Own.from (fun s A B row hs hg hr => by obtain ⟨h0, ini, x, t, u, v, h1, h2, h3, h4⟩ := hs; exact ⟨h0, ini, x, t, u, v, h1, h2, h3, h4.kept hg hr⟩) _) (ownFrom_below (by omega) (by omega)))
        ⟨⟨(l, h), rfl, hC2⟩, Below.refl _ _⟩ ?act ?assign ?body ?done ?stop
      case assign =>
        intro l' x W K hK
        gi_wp2
        exact hK
      case body =>
        rintro l' pre ⟨x1, x2⟩ W ⟨⟨⟨t1, t2⟩, hrun, hC⟩, hB⟩ hlt
        have HCa := Lib.hid hC
        obtain ⟨⟨c1, c2⟩, ⟨c3, c4⟩, c5, ⟨q1, q2⟩, ⟨q3, q4⟩, q5⟩ := hC
        have Hcase := Lib.hid (Mig.err_cases t1 t2 x1 x2)
        have HS := Lib.hid (fun W => scale_any t1 t2 x1 x2 W)
        have Hrun := Lib.hid hrun
        obtain ⟨er, Her⟩ : ∃ x, Hid (x = Mig.err t1 t2 x1 x2) := ⟨_, Lib.hid rfl⟩
        obtain ⟨u, Hu⟩ : ∃ x, Hid (x = Mig.lo t1 t2 x1 x2) := ⟨_, Lib.hid rfl⟩
        obtain ⟨v, Hv⟩ : ∃ x, Hid (x = Mig.hi t1 t2 x1 x2) := ⟨_, Lib.hid rfl⟩
        rw [← Her.out, ← Hu.out, ← Hv.out] at HS Hcase
        have hW2 := hB.size
        by_cases he : er = 0
        · have Hstep : Hid (Mig.run (l, h) (pre ++ [(x1, x2)]) = some (u, v)) := Lib.hid (by
            rw [Mig.run_snoc Hrun.out]
            rcases Hcase.out with h1 | h1 | h1
            · omega
            · omega
            · rw [if_pos h1.2.1, h1.2.2.2.1, h1.2.2.2.2]; rfl)
          subst he
          clear hrun
          gi_wp2_with (refine ⟨trivial, ?_⟩; gi_at_call 11; refine (CallsIn.inRound l' (callsIn_wide.2 (HS.out W))).mono ?_; rintro e w3 ⟨rfl, hb3⟩; have HC3 := Lib.hid (HCa.out.below hb3); obtain ⟨⟨d1, d2⟩, ⟨d3, d4⟩, d5, ⟨p1, p2⟩, ⟨p3, p4⟩, p5⟩ := HC3.out)
          have hsz := hb3.size
          refine ⟨(KeepsFrom.of_below hb3).trans (((KeepsOthers.setCell _ _ _).trans (KeepsOthers.setCell _ _ _)).from _), ⟨((hb3.mono (show w.heap.size ≤ W.heap.size by omega)).setCell (p := ⟨w.heap.size, 0, none⟩) (Nat.le_refl _) _).setCell (p := ⟨w.heap.size, 1, none⟩) (Nat.le_refl _) _, ?_⟩, ⟨(u, v), Hstep.out, HC3.out.life u v⟩, ((hB.trans (hb3.mono (show w.heap.size ≤ W.heap.size by omega))).setCell (p := ⟨w.heap.size, 0, none⟩) (Nat.le_refl _) _).setCell (p := ⟨w.heap.size, 1, none⟩) (Nat.le_refl _) _⟩
          rw [World.cell?_setCell_other _ _ _ _ (by intro h; injection h; omega), World.cell?_setCell_other _ _ _ _ (by intro h; injection h; omega)]
          exact hb3.cell (p := ⟨w1.heap.size, 0, none⟩) (by show w1.heap.size < _; omega)
        · have he' : (er == 0) = false := by simp [he]
          clear hrun
          gi_wp2_with (refine ⟨trivial, ?_⟩; gi_at_call 11; refine (CallsIn.inRound l' (callsIn_wide.2 (HS.out W))).mono ?_; rintro e w3 ⟨rfl, hb3⟩; have HC3 := Lib.hid (HCa.out.below hb3); obtain ⟨⟨d1, d2⟩, ⟨d3, d4⟩, d5, ⟨p1, p2⟩, ⟨p3, p4⟩, p5⟩ := HC3.out)
          have hsz := hb3.size
          have hK3 : KeepsFrom W2.heap.size W w3 := KeepsFrom.of_below hb3
          have hB3 : Below w.heap.size W2 w3 := hB.trans (hb3.mono (show w.heap.size ≤ W.heap.size by omega))
          refine ⟨hK3.trans (((((KeepsOthers.setCell _ _ _).trans (KeepsOthers.setCell _ _ _)).trans (KeepsOthers.setCell _ _ _)).trans ((KeepsOthers.setCell _ _ _).trans (KeepsOthers.setCell _ _ _))).from _),
            ⟨rfl, pre, (x1, x2), (t1, t2), u, v, rfl, Hrun.out, by show Mig.err t1 t2 x1 x2 ≠ 0; rw [← Her.out]; exact he, ?_⟩, ?_⟩
          · show Cells5 _ w.heap.size u v 0 0 (Mig.err t1 t2 x1 x2)
            rw [← Her.out]
            exact (HC3.out.life u v).result 0 0 er
          · exact ((((hB3.setCell (p := ⟨w.heap.size, 0, none⟩) (Nat.le_refl _) _).setCell (p := ⟨w.heap.size, 1, none⟩) (Nat.le_refl _) _).setCell (p := ⟨w.heap.size + 1, 0, none⟩) (by show w.heap.size ≤ w.heap.size + 1; omega) _).setCell (p := ⟨w.heap.size + 1, 1, none⟩) (by show w.heap.size ≤ w.heap.size + 1; omega) _).setCell (p := ⟨w.heap.size + 1 + 1, 0, none⟩) (by show w.heap.size ≤ w.heap.size + 1 + 1; omega) _
      case done =>
        rintro D ys W hD rfl ⟨⟨⟨t1, t2⟩, hrun, hC⟩, hB⟩ hK
        have HCa := Lib.hid hC
        obtain ⟨⟨c1, c2⟩, ⟨c3, c4⟩, c5, ⟨q1, q2⟩, ⟨q3, q4⟩, q5⟩ := hC
        have Hres : Hid (Mig.chain l h zs = (t1, t2, 0)) := Lib.hid (by rw [Hok.out, hrun])
        clear hrun
        gi_wp2
        have hK' := ((((KeepsOthers.setCell W ⟨w.heap.size + 1, 0, none⟩ (.int .i64 t1)).trans (KeepsOthers.setCell _ ⟨w.heap.size + 1, 1, none⟩ (.int .i64 t2))).trans (KeepsOthers.setCell _ ⟨w.heap.size + 1 + 1, 0, none⟩ (.int .i64 0)))).same D _ hK rfl
        refine ⟨by simp, .inl ⟨_, _, rfl, run_takeDeferred hK', ?_⟩⟩
        have hCr := (HCa.out.result t1 t2 0).kept (grownBy_putObj' _ D (.deferred none)) (fun r e => by cases e; exact ⟨_, hK', rfl⟩)
        obtain ⟨-, ⟨r3, r4⟩, r5, -⟩ := hCr
        refine ⟨.tuple #[.agg #[.int .i64 t1, .int .i64 t2], .int .i64 0], by simp [results, Try.f13, go_sem, r3, r4, r5], by rw [Hres.out], ?_⟩
        exact (hB2.trans (((hB.setCell (p := ⟨w.heap.size + 1, 0, none⟩) (by show w.heap.size ≤ w.heap.size + 1; omega) _).setCell (p := ⟨w.heap.size + 1, 1, none⟩) (by show w.heap.size ≤ w.heap.size + 1; omega) _).setCell (p := ⟨w.heap.size + 1 + 1, 0, none⟩) (by show w.heap.size ≤ w.heap.size + 1 + 1; omega) _)).trans
          (belowK_b (w := w) (Nat.le_refl _) _ D _ _ (by have := hB2.size; omega) hK' rfl rfl)
      case stop =>
        rintro D c pre W hD ⟨k, hk, hpre⟩ ⟨⟨rfl, ini, ⟨x1, x2⟩, ⟨t1, t2⟩, u, v, hini, hrun, hne, hC⟩, hB⟩ hK
        have Hres : Hid (Mig.chain l h zs = (0, 0, 7) ∧ Mig.err t1 t2 x1 x2 = 7) := Lib.hid (stop_err hu Hpos.out Hok.out hk hpre hini hrun hne)
        rw [show Mig.err (t1, t2).1 (t1, t2).2 (x1, x2).1 (x1, x2).2 = 7 from Hres.out.2] at hC
        clear hrun hne hini hpre
        gi_wp2
        refine ⟨by simp, .inl ⟨_, _, rfl, run_takeDeferred hK, ?_⟩⟩
        have hCr := hC.kept (grownBy_putObj' _ D (.deferred none)) (fun r e => by cases e; exact ⟨_, hK, rfl⟩)
        obtain ⟨-, ⟨r3, r4⟩, r5, -⟩ := hCr
        refine ⟨.tuple #[.agg #[.int .i64 0, .int .i64 0], .int .i64 7], by simp [results, Try.f13, go_sem, r3, r4, r5], by rw [Hres.out.1], ?_⟩
        exact (hB2.trans hB).trans (belowK_b (w := w) (Nat.le_refl _) _ D _ _ (by have := hB2.size; omega) hK rfl rfl)

/-- The cells of the three blocks that Chain lays. -/
theorem chain_cells {w w1 : World} {l h : Int}
    (hb1 : Below (((w.alloc (.cells #[.int .i64 l, .int .i64 h] 23)).alloc (.cells #[.int .i64 0, .int .i64 0] 23)).alloc (.cells #[.int .i64 0] 26)).heap.size (((w.alloc (.cells #[.int .i64 l, .int .i64 h] 23)).alloc (.cells #[.int .i64 0, .int .i64 0] 23)).alloc (.cells #[.int .i64 0] 26)) w1) :
    Cells5 w1 w.heap.size l h 0 0 0 ∧ Below w.heap.size w w1 := by
  have hz := hb1.size
  simp only [size_alloc] at hz
  have hbw : Below w.heap.size w w1 := ((((Below.refl _ _).alloc (Nat.le_refl _) _).alloc (by simp only [size_alloc]; omega) _).alloc (by simp only [size_alloc]; omega) _).trans (hb1.mono (by simp only [size_alloc]; omega))
  obtain ⟨hcl, hfr⟩ := bcell hb1
  have f0 := hcl w.heap.size 0 (by simp only [size_alloc]; omega)
  have f1 := hcl w.heap.size 1 (by simp only [size_alloc]; omega)
  have f2 := hcl (w.heap.size + 1) 0 (by simp only [size_alloc]; omega)
  have f3 := hcl (w.heap.size + 1) 1 (by simp only [size_alloc]; omega)
  have f4 := hcl (w.heap.size + 2) 0 (by simp only [size_alloc]; omega)
  have g0 := hfr w.heap.size 0 (by simp only [size_alloc]; omega)
  have g1 := hfr w.heap.size 1 (by simp only [size_alloc]; omega)
  have g2 := hfr (w.heap.size + 1) 0 (by simp only [size_alloc]; omega)
  have g3 := hfr (w.heap.size + 1) 1 (by simp only [size_alloc]; omega)
  have g4 := hfr (w.heap.size + 2) 0 (by simp only [size_alloc]; omega)
  simp [cell_alloc, Nat.add_assoc] at f0 f1 f2 f3 f4
  simp [frozen_alloc, Nat.add_assoc] at g0 g1 g2 g3 g4
  exact ⟨⟨⟨f0, f1⟩, ⟨f2, f3⟩, f4, ⟨g0, g1⟩, ⟨g2, g3⟩, g4⟩, hbw⟩

set_option maxHeartbeats 2000000 in
theorem chain_bad (l h : Int) (n : Nat) (hn : n ≤ 9223372036854775807) (hbad : Mig.usedB l h = false ∨ n = 0 ∨ 60 < n) (ao : Option Addr) (cap : Nat) (w : World) :
    Calls Try.prog 13 #[.agg #[.int .i64 l, .int .i64 h], .slice ao n cap] w
      fun e w' => e = .returned (.tuple #[.agg #[.int .i64 0, .int .i64 0], .int .i64 1]) ∧ Below w.heap.size w w' := by
  cases hu : Mig.usedB l h
  · clear hbad
    go_enter Try.func13, Try.ntmps13
    go_wp2_with fail
    refine (isUsed_any _ _ _).mono ?_
    rintro e w1 ⟨rfl, hb⟩
    obtain ⟨hC, hbw⟩ := chain_cells hb
    have HC := Lib.hid hC
    obtain ⟨-, ⟨c3, c4⟩, c5, -, ⟨q3, q4⟩, q5⟩ := hC
    clear hb
    go_wp2
    have hCr := HC.out.result 0 0 1
    obtain ⟨-, ⟨r3, r4⟩, r5, -⟩ := hCr
    refine bodyPost_ret (v := .tuple #[.agg #[.int .i64 0, .int .i64 0], .int .i64 1]) (by simp [results, Try.results13, go_sem, r3, r4, r5]) rfl ⟨rfl, ?_⟩
    exact ((hbw.setCell (p := ⟨w.heap.size + 1, 0, none⟩) (by show w.heap.size ≤ w.heap.size + 1; omega) _).setCell (p := ⟨w.heap.size + 1, 1, none⟩) (by show w.heap.size ≤ w.heap.size + 1; omega) _).setCell (p := ⟨w.heap.size + 1 + 1, 0, none⟩) (by show w.heap.size ≤ w.heap.size + 1 + 1; omega) _
  · have hn2 : n = 0 ∨ 60 < n := by
      rcases hbad with h1 | h1
      · rw [hu] at h1; cases h1
      · exact h1
    clear hbad
    rcases hn2 with rfl | hn2
    · go_enter Try.func13, Try.ntmps13
      go_wp2_with fail
      refine (isUsed_any _ _ _).mono ?_
      rintro e w1 ⟨rfl, hb⟩
      obtain ⟨hC, hbw⟩ := chain_cells hb
      have HC := Lib.hid hC
      obtain ⟨-, ⟨c3, c4⟩, c5, -, ⟨q3, q4⟩, q5⟩ := hC
      clear hb
      go_wp2
      have hCr := HC.out.result 0 0 1
      obtain ⟨-, ⟨r3, r4⟩, r5, -⟩ := hCr
      refine bodyPost_ret (v := .tuple #[.agg #[.int .i64 0, .int .i64 0], .int .i64 1]) (by simp [results, Try.results13, go_sem, r3, r4, r5]) rfl ⟨rfl, ?_⟩
      exact ((hbw.setCell (p := ⟨w.heap.size + 1, 0, none⟩) (by show w.heap.size ≤ w.heap.size + 1; omega) _).setCell (p := ⟨w.heap.size + 1, 1, none⟩) (by show w.heap.size ≤ w.heap.size + 1; omega) _).setCell (p := ⟨w.heap.size + 1 + 1, 0, none⟩) (by show w.heap.size ≤ w.heap.size + 1 + 1; omega) _
    · have hn3 : ¬ (n : Int) < 1 := by omega
      have hn4 : (60 : Int) < n := by omega
      go_enter Try.func13, Try.ntmps13
      go_wp2_with fail
      refine (isUsed_any _ _ _).mono ?_
      rintro e w1 ⟨rfl, hb⟩
      obtain ⟨hC, hbw⟩ := chain_cells hb
      have HC := Lib.hid hC
      obtain ⟨-, ⟨c3, c4⟩, c5, -, ⟨q3, q4⟩, q5⟩ := hC
      clear hb
      go_wp2
      have hCr := HC.out.result 0 0 1
      obtain ⟨-, ⟨r3, r4⟩, r5, -⟩ := hCr
      refine bodyPost_ret (v := .tuple #[.agg #[.int .i64 0, .int .i64 0], .int .i64 1]) (by simp [results, Try.results13, go_sem, r3, r4, r5]) rfl ⟨rfl, ?_⟩
      exact ((hbw.setCell (p := ⟨w.heap.size + 1, 0, none⟩) (by show w.heap.size ≤ w.heap.size + 1; omega) _).setCell (p := ⟨w.heap.size + 1, 1, none⟩) (by show w.heap.size ≤ w.heap.size + 1; omega) _).setCell (p := ⟨w.heap.size + 1 + 1, 0, none⟩) (by show w.heap.size ≤ w.heap.size + 1 + 1; omega) _

theorem chain_any (l h : Int) (zs : List Int) (hn : zs.length ≤ 9223372036854775807) (ao : Option Addr) (cap : Nat) (w : World) (hz : IsInts w ao zs) :
    Calls Try.prog 13 #[.agg #[.int .i64 l, .int .i64 h], .slice ao zs.length cap] w
      fun e w' => e = .returned (.tuple #[.agg #[.int .i64 (Mig.chain l h zs).1, .int .i64 (Mig.chain l h zs).2.1], .int .i64 (Mig.chain l h zs).2.2]) ∧ Below w.heap.size w w' := by
  by_cases hbad : Mig.usedB l h = false ∨ zs.length = 0 ∨ 60 < zs.length
  · have e : Mig.chain l h zs = (0, 0, 1) := by
      unfold Mig.chain
      refine if_neg fun hh => ?_
      obtain ⟨h1, h2, h3, _⟩ := Mig.chainOk_iff.1 hh
      rcases hbad with h4 | h4 | h4
      · rw [Mig.used_iff.2 h1] at h4; cases h4
      · omega
      · omega
    rw [e]
    exact chain_bad l h zs.length hn hbad ao cap w
  · have hu : Mig.usedB l h = true := by
      cases hu : Mig.usedB l h
      · exact absurd (Or.inl hu) hbad
      · rfl
    rcases hz with rfl | ⟨bk, off, rfl, hbk, hc⟩
    · exact absurd (Or.inr (Or.inl rfl)) hbad
    · exact callsIn_wide.1 (chain_good l h zs hu (by omega) (by omega) bk off cap w hbk (fun j hj => by rw [hc j hj, List.getElem?_eq_getElem hj]; rfl))

end Go.Proofs.Ytbiibpjjjjedgaa
