/- The reference's disk in memory: the same value as the package's, its sectors as a row of texts. -/
import Derived.Test.YtenddmcepfkbaaaDskRun
namespace Go.Proofs.Ytenddmcepfkbaaa
open Go.RowKit

/-- The text of a sector. -/
def secS (st : List UInt8) (s : Nat) : ByteArray := ⟨(Dsk.bytes st s).toArray⟩
theorem bytes_put {n : Nat} {st : List UInt8} (h : st.length = 64 * n) {s j : Nat} (hs : s < n) (hj : j < n) (t : List UInt8) (ht : t.length ≤ 64) :
    Dsk.bytes (Dsk.put st s t) j = if j = s then t ++ (Dsk.bytes st s).drop t.length else Dsk.bytes st j := by
  unfold Dsk.bytes Dsk.put
  apply List.ext_getElem?
  intro i
  by_cases e : j = s
  · subst e
    rw [if_pos rfl]
    simp only [List.getElem?_take, List.getElem?_drop, List.getElem?_append, List.length_append, List.length_take]
    have h1 : min (64 * j) st.length = 64 * j := by omega
    simp only [h1]
    by_cases hi : i < 64
    · by_cases h2 : i < t.length
      · rw [if_pos hi, if_pos (by omega), if_neg (by omega), if_pos h2]
        congr 1
        omega
      · rw [if_pos hi, if_neg (by omega), if_neg h2, if_pos (by omega)]
        congr 1
        omega
    · rw [if_neg hi, if_neg (by omega), if_neg (by omega)]
  · rw [if_neg e]
    simp only [List.getElem?_take, List.getElem?_drop, List.getElem?_append, List.length_append, List.length_take]
    have h1 : min (64 * s) st.length = 64 * s := by omega
    simp only [h1]
    by_cases hi : i < 64
    · by_cases h2 : j < s
      · rw [if_pos hi, if_pos hi, if_pos (by omega), if_pos (by omega), if_pos (by omega)]
      · rw [if_pos hi, if_pos hi, if_neg (by omega)]
        congr 1
        omega
    · rw [if_neg hi, if_neg hi]
theorem secS_size {n : Nat} {st : List UInt8} (h : st.length = 64 * n) {s : Nat} (hs : s < n) : (secS st s).size = 64 := bytes_len h hs

def refC (g n gc : Nat) (pv : Value) (D : Dsk.Dk) : Array Value :=
  #[.slice (some ⟨g, 0, none⟩) n gc, pv, .bool (!D.off), .bool D.armed, .int .i64 D.aft, .int .i64 D.tw, .int .i64 D.tb]
/-- The block g begins with the sectors' texts. -/
def Secs (n : Nat) (W : World) (g : Nat) (st : List UInt8) : Prop := ∃ cur, Whole W g 9 cur ∧ n ≤ cur.size ∧ ∀ s, s < n → cur[s]? = some (.string (secS st s))
/-- The reference's disk D of n sectors lies at b; its texts at g; its pending writes are the slice pv. -/
structure IsRf (n : Nat) (W : World) (b g gc : Nat) (pv : Value) (D : Dsk.Dk) : Prop where
  whole : Whole W b 64 (refC g n gc pv D)
  stable : Secs n W g D.st
  row : W.ownsRow 0 73 2 pv D.pd.length (pdC D.pd)
  ok : Dsk.ok n D
def LeftR (n : Nat) (W : World) (b g gc : Nat) (pv : Value) (D : Dsk.Dk) (W' : World) : Prop :=
  ∃ pv', Only (foot b g pv) W W' ∧ IsRf n W' b g gc pv' D ∧ ∀ k, pv'.ownBlock = some k → pv.ownBlock = some k ∨ W.heap.size ≤ k
section
variable {n : Nat} {W W' W2 : World} {b g gc : Nat} {pv pv' : Value} {D D' : Dsk.Dk}
theorem Secs.lt {st : List UInt8} (h : Secs n W g st) : g < W.heap.size := by obtain ⟨cur, h1, _⟩ := h; exact h1.lt
theorem Secs.block {st : List UInt8} (h : Secs n W g st) (hb : W'.heap[g]? = W.heap[g]?) : Secs n W' g st := by
  obtain ⟨cur, h1, h2⟩ := h
  exact ⟨cur, hb.trans h1, h2⟩
theorem Secs.cell {st : List UInt8} (h : Secs n W g st) {s : Nat} (hs : s < n) : W.cell? ⟨g, s, none⟩ = some (.string (secS st s)) := by
  obtain ⟨cur, h1, h2, h3⟩ := h
  rw [h1.cell s]; exact h3 s hs
theorem Secs.frozen {st : List UInt8} (h : Secs n W g st) (s : Nat) : W.frozen? ⟨g, s, none⟩ = false := by
  obtain ⟨cur, h1, _⟩ := h
  exact h1.frozen s
theorem Secs.set {st st' : List UInt8} (h : Secs n W g st) {s : Nat} (hs : s < n) (t : ByteArray) (he : ∀ j, j < n → secS st' j = if j = s then t else secS st j) : Secs n (W.setCell ⟨g, s, none⟩ (.string t)) g st' := by
  obtain ⟨cur, h1, h2, h3⟩ := h
  refine ⟨_, h1.set s (.string t), by simpa using h2, fun j hj => ?_⟩
  rw [he j hj, Array.getElem?_setIfInBounds]
  by_cases e : s = j
  · subst e
    rw [if_pos rfl, if_pos (by omega), if_pos rfl]
  · rw [if_neg e, if_neg (fun hh => e hh.symm)]
    exact h3 j hj
theorem IsRf.apart (h : IsRf n W b g gc pv D) : b ≠ g := by
  obtain ⟨cur, h1, _⟩ := h.stable
  exact h.whole.apart h1 (by decide)
theorem IsRf.pvb (h : IsRf n W b g gc pv D) : pv.ownBlock ≠ some b := owns_whole h.row h.whole (by decide)
theorem IsRf.pvs (h : IsRf n W b g gc pv D) : pv.ownBlock ≠ some g := by
  obtain ⟨cur, h1, _⟩ := h.stable
  exact owns_whole h.row h1 (by decide)
theorem IsRf.cells (h : IsRf n W b g gc pv D) : W.cell? ⟨b, 0, none⟩ = some (.slice (some ⟨g, 0, none⟩) n gc) ∧ W.cell? ⟨b, 1, none⟩ = some pv ∧ W.cell? ⟨b, 2, none⟩ = some (.bool (!D.off)) ∧
    W.cell? ⟨b, 3, none⟩ = some (.bool D.armed) ∧ W.cell? ⟨b, 4, none⟩ = some (.int .i64 D.aft) ∧ W.cell? ⟨b, 5, none⟩ = some (.int .i64 D.tw) ∧ W.cell? ⟨b, 6, none⟩ = some (.int .i64 D.tb) :=
  ⟨h.whole.cell 0, h.whole.cell 1, h.whole.cell 2, h.whole.cell 3, h.whole.cell 4, h.whole.cell 5, h.whole.cell 6⟩
theorem IsRf.frees (h : IsRf n W b g gc pv D) (i : Nat) : W.frozen? ⟨b, i, none⟩ = false := h.whole.frozen i
theorem IsRf.grown (h : IsRf n W b g gc pv D) (hb : Below W.heap.size W W') : IsRf n W' b g gc pv D :=
  ⟨(hb.block b h.whole.lt).trans h.whole, h.stable.block (hb.block g h.stable.lt), h.row.kept (row := none) ⟨hb.os, hb.tape, hb.output, hb.size, fun k hk _ => hb.block k hk⟩ (by cases pv.ownBlock <;> simp), h.ok⟩
theorem IsRf.far {F : Nat → Prop} (h : IsRf n W b g gc pv D) (hb : Only F W W') (hf : ∀ k, foot b g pv k → ¬ F k) : IsRf n W' b g gc pv D := by
  refine ⟨hb.whole h.whole (hf _ (Or.inl rfl)), h.stable.block (hb.block g h.stable.lt (hf _ (Or.inr (Or.inl rfl)))), ?_, h.ok⟩
  refine ⟨h.row.1, ?_⟩
  rcases h.row.2 with hn | ⟨g', cap, cur, e, hb0, hg, rest⟩
  · exact Or.inl hn
  · refine Or.inr ⟨g', cap, cur, e, hb0, ?_, rest⟩
    rw [hb.block g' (Array.getElem?_eq_some_iff.1 hg).1 (hf _ (Or.inr (Or.inr (by rw [e]; rfl))))]
    exact hg
theorem rfoot_lt (h : IsRf n W b g gc pv D) {k : Nat} (hk : foot b g pv k) : k < W.heap.size := by
  rcases hk with rfl | rfl | hk
  · exact h.whole.lt
  · exact h.stable.lt
  · exact (h.row.lt k hk).2
theorem LeftR.same (h : IsRf n W b g gc pv D) (hb : Below W.heap.size W W') : LeftR n W b g gc pv D W' := ⟨pv, Only.of_below _ hb, h.grown hb, fun _ hk => Or.inl hk⟩
/-- Two operations. -/
theorem LeftR.next {D2 : Dsk.Dk} (h1 : Only (foot b g pv) W W') (hp : ∀ k, pv'.ownBlock = some k → pv.ownBlock = some k ∨ W.heap.size ≤ k) (h2 : LeftR n W' b g gc pv' D2 W2) : LeftR n W b g gc pv D2 W2 := by
  obtain ⟨p2, o2, i2, q2⟩ := h2
  refine ⟨p2, h1.next o2 fun k hk => foot_of_left h1.size hp hk, i2, fun k hk => ?_⟩
  rcases q2 k hk with h | h
  · exact hp k h
  · exact Or.inr (Nat.le_trans h1.size h)
theorem LeftR.boxed (o : Obj) {D2 : Dsk.Dk} (h : LeftR n (W.alloc o) b g gc pv D2 W') : LeftR n W b g gc pv D2 W' :=
  LeftR.next (pv' := pv) ((Only.refl _ _).alloc o) (fun _ hk => Or.inl hk) h
theorem IsRf.boxed (h : IsRf n W b g gc pv D) (o : Obj) : IsRf n (W.alloc o) b g gc pv D := h.grown ((Below.refl _ _).alloc (Nat.le_refl _) o)
/-- A field of the disk is stored. -/
theorem IsRf.store (h : IsRf n W b g gc pv D) (i : Nat) (u : Value) {D2 : Dsk.Dk} (hC : (refC g n gc pv D).setIfInBounds i u = refC g n gc pv D2) (h1 : D2.st = D.st) (h2 : D2.pd = D.pd) : IsRf n (W.setCell ⟨b, i, none⟩ u) b g gc pv D2 := by
  refine ⟨by rw [← hC]; exact h.whole.set i u, by rw [h1]; exact h.stable.block (Below.heap_setCell _ _ _ _ (fun e => h.apart e.symm)), ?_, ⟨by rw [h1]; exact h.ok.st, by rw [h2]; exact h.ok.pd, h.ok.n1, h.ok.n2, by rw [h2]; exact h.ok.few⟩⟩
  rw [h2]
  exact h.row.kept (row := some b) ⟨rfl, rfl, rfl, by simp, fun k _ hk => Below.heap_setCell _ _ _ _ (fun e => hk (by rw [e]))⟩ (Or.inr h.pvb)
/-- A sector's text is stored. -/
theorem IsRf.put (h : IsRf n W b g gc pv D) {s : Nat} (hs : s < n) (t : ByteArray) {st' : List UInt8} (hl : st'.length = 64 * n) (he : ∀ j, j < n → secS st' j = if j = s then t else secS D.st j) : IsRf n (W.setCell ⟨g, s, none⟩ (.string t)) b g gc pv { D with st := st' } :=
  ⟨h.whole.far (p := ⟨g, s, none⟩) h.apart _, h.stable.set hs t he, h.row.kept (row := some g) ⟨rfl, rfl, rfl, by simp, fun k _ hk => Below.heap_setCell _ _ _ _ (fun e => hk (by rw [e]))⟩ (Or.inr h.pvs), ⟨hl, h.ok.pd, h.ok.n1, h.ok.n2, h.ok.few⟩⟩
theorem IsRf.dropped (h : IsRf n W b g gc pv D) : IsRf n (W.setCell ⟨b, 1, none⟩ (.slice none 0 0)) b g gc (.slice none 0 0) { D with pd := [] } :=
  ⟨h.whole.set 1 _, h.stable.block (Below.heap_setCell _ _ _ _ (fun e => h.apart e.symm)), World.ownsRow_nil _ _ _ _, ⟨h.ok.st, by simp, h.ok.n1, h.ok.n2, by simp⟩⟩
theorem IsRf.slice (h : IsRf n W b g gc pv D) : ∃ ao cap, pv = .slice ao D.pd.length cap ∧ (∀ k, k < D.pd.length → ∃ g, ao = some ⟨g, 0, none⟩) := by
  rcases h.row.2 with ⟨rfl, h0⟩ | ⟨g, cap, cur, rfl, _⟩
  · exact ⟨none, 0, by rw [h0], fun k hk => by omega⟩
  · exact ⟨some ⟨g, 0, none⟩, cap, rfl, fun _ _ => ⟨g, rfl⟩⟩
theorem IsRf.pend (h : IsRf n W b g gc pv D) {g' cap : Nat} (hp : pv = .slice (some ⟨g', 0, none⟩) D.pd.length cap) (k : Nat) (hk : k < D.pd.length) :
    W.cell? ⟨g', k * 2, none⟩ = some (.int .i64 (D.pd[k].1 : Nat)) ∧ W.cell? ⟨g', k * 2 + 1, none⟩ = some (.string D.pd[k].2) := by
  have e : ∀ j, (⟨g', 0, none⟩ : Addr).add j = ⟨g', j, none⟩ := fun j => by unfold Addr.add; split <;> simp_all
  have h1 := pdC_get D.pd k hk
  have h2 := h.row.cells (g := g') (by rw [hp]; rfl)
  have h3 := h2 _ _ h1.1
  have h4 := h2 _ _ h1.2
  rw [e] at h3 h4
  exact ⟨h3, h4⟩
end

end Go.Proofs.Ytenddmcepfkbaaa
