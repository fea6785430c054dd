/- Runs of operations on a disk, and what the statements on disks share. -/
import Derived.Test.YtenddmcepfkbaaaOpenActs
namespace Go.Proofs.Ytenddmcepfkbaaa
open Go.RowKit

def runD (n : Nat) (D : Dsk.Dk) (l : List Ac) : Dsk.Dk := l.foldl (doD n) D
theorem runD_take {n : Nat} {D : Dsk.Dk} {l : List Ac} {k : Nat} (h : k < l.length) : runD n D (l.take (k + 1)) = doD n (runD n D (l.take k)) l[k] := by
  unfold runD
  rw [List.take_succ_eq_append_getElem h, List.foldl_append]
  rfl
/-- The six cells of an operation. -/
def IsAct (W : World) (b off : Nat) (a : Ac) : Prop :=
  W.cell? ⟨b, off, none⟩ = some (.int .i64 a.kind) ∧ W.cell? ⟨b, off + 1, none⟩ = some (.int .i64 a.sector) ∧ W.cell? ⟨b, off + 2, none⟩ = some (.int .i64 a.byt) ∧
    W.cell? ⟨b, off + 3, none⟩ = some (.string a.text) ∧ W.cell? ⟨b, off + 4, none⟩ = some (.bool a.odd) ∧ W.cell? ⟨b, off + 5, none⟩ = some (.int .i64 a.after)
theorem IsAct.below {W W' : World} {B b off : Nat} {a : Ac} (h : IsAct W b off a) (hb : Below B W W') (hB : b < B) : IsAct W' b off a := by
  unfold IsAct
  rw [hb.cell (p := ⟨b, off, none⟩) hB, hb.cell (p := ⟨b, off + 1, none⟩) hB, hb.cell (p := ⟨b, off + 2, none⟩) hB, hb.cell (p := ⟨b, off + 3, none⟩) hB, hb.cell (p := ⟨b, off + 4, none⟩) hB, hb.cell (p := ⟨b, off + 5, none⟩) hB]
  exact h
theorem IsAct.new (w : World) (a : Ac) (t : TypeId) : IsAct (w.alloc (.cells #[.int .i64 a.kind, .int .i64 a.sector, .int .i64 a.byt, .string a.text, .bool a.odd, .int .i64 a.after] t)) w.heap.size 0 a := by
  unfold IsAct
  simp only [cell_alloc, if_true]
  exact ⟨rfl, rfl, rfl, rfl, rfl, rfl⟩
theorem IsActs.at {W : World} {ao : Option Addr} {l : List Ac} (h : IsActs W ao l) {k : Nat} (hk : k < l.length) : ∃ bk off, ao = some ⟨bk, off, none⟩ ∧ bk < W.heap.size ∧ IsAct W bk (off + k * 6) l[k] := by
  rcases h with h | ⟨bk, off, h1, h2, h3⟩
  · subst h; simp at hk
  · exact ⟨bk, off, h1, h2, h3 k hk⟩
theorem IsActs.grown {W W' : World} {ao : Option Addr} {l : List Ac} (h : IsActs W ao l) (hb : Below W.heap.size W W') : IsActs W' ao l := by
  rcases h with h | ⟨bk, off, h1, h2, h3⟩
  · exact Or.inl h
  · exact Or.inr ⟨bk, off, h1, Nat.lt_of_lt_of_le h2 hb.size, fun k hk => IsAct.below (B := W.heap.size) (off := off + k * 6) (h3 k hk) hb h2⟩
theorem IsAct.one {W : World} {b : Nat} {a : Ac} (h : IsAct W b 0 a) (hb : b < W.heap.size) : IsActs W (some ⟨b, 0, none⟩) [a] := by
  refine Or.inr ⟨b, 0, rfl, hb, fun k hk => ?_⟩
  have hk0 : k = 0 := by simpa using hk
  subst hk0
  exact h
theorem run_fits {n : Nat} {D : Dsk.Dk} {l : List Ac} (hl : ∀ a ∈ l, acFine a) (h : fits D 0) : fits (runD n D l) l.length := by
  suffices hs : ∀ k, k ≤ l.length → fits (runD n D (l.take k)) k by
    have := hs l.length (Nat.le_refl _)
    rwa [List.take_length] at this
  intro k
  induction k with
  | zero => intro _; exact h
  | succ k ih =>
    intro hk
    rw [runD_take (by omega)]
    exact do_fits (ih (by omega)) _ (hl _ (List.getElem_mem _)).2
theorem zero_fits (n : Nat) : fits (Dsk.zero n) 0 := ⟨by show (0 : Int) ≤ _; decide, by simp [Dsk.zero]⟩

/-- An operation on a disk along a walk. -/
theorem St.act {n : Nat} {W1 W : World} {F : Nat → Prop} {b bs k : Nat} {D : Dsk.Dk} (h : St n W1 F W b bs D) (a : Ac) (ht : a.text.size ≤ 100) (hf : fits D k) (hk : k ≤ 1000) :
    Calls Try.prog 16 #[.pointer (some ⟨b, 0, none⟩), .agg #[.int .i64 a.kind, .int .i64 a.sector, .int .i64 a.byt, .string a.text, .bool a.odd, .int .i64 a.after]] W
      fun e w' => e = .returned (.tuple #[.string (doV n D a), .int .i64 (doE n D a)]) ∧ St n W1 F w' b bs (doD n D a) :=
  h.run fun _ hi => do_any hi a ht (by have := hf.2; omega) hf.1

/-- A disk that is on and not armed. -/
def Calm (D : Dsk.Dk) : Prop := D.off = false ∧ D.armed = false
theorem start_calm (D : Dsk.Dk) : Calm (Dsk.startD D) := ⟨rfl, rfl⟩
theorem calm_survive {D : Dsk.Dk} (h : Calm D) : Dsk.surviveD D = D ∧ Dsk.surviveE D = 0 := by
  unfold Dsk.surviveD Dsk.surviveE
  rw [h.2]
  exact ⟨rfl, rfl⟩
theorem calm_write {n : Nat} {D : Dsk.Dk} (h : Calm D) (s : Int) (t : ByteArray) : Calm (Dsk.writeD n D s t) ∧ (Dsk.writeD n D s t).st = D.st ∧
    Dsk.writeD n D s t = (if Dsk.has n s && (t.size == 64) then Dsk.added D s t else D) ∧ Dsk.writeE n D s t = (if Dsk.has n s && (t.size == 64) then 0 else 1) := by
  have h1 : Calm (Dsk.added D s t) := h
  have h2 := calm_survive h1
  unfold Dsk.writeD Dsk.writeE
  rw [h.1]
  simp only [Bool.false_eq_true, if_false]
  split
  · rw [h2.1, (calm_survive h).2]; exact ⟨h, rfl, rfl, rfl⟩
  · exact ⟨h, rfl, rfl, rfl⟩
theorem calm_sync {D : Dsk.Dk} (h : Calm D) : Dsk.syncD D = { D with st := Dsk.settle D.st D.pd, pd := [] } ∧ Dsk.syncE D = 0 ∧ Calm (Dsk.syncD D) := by
  obtain ⟨st, pd, off, armed, aft, tw, tb⟩ := D
  obtain ⟨h1, h2⟩ := h
  simp only at h1 h2
  subst h1 h2
  exact ⟨rfl, rfl, rfl, rfl⟩
theorem start_fits {D : Dsk.Dk} {k : Nat} (h : fits D k) : fits (Dsk.startD D) k := h
theorem put_nil (st : List UInt8) (s : Nat) : Dsk.put st s [] = st := by
  unfold Dsk.put
  simp
theorem fail_none {D : Dsk.Dk} : (Dsk.fail D 0 0).st = D.st := by
  unfold Dsk.fail
  split
  · rfl
  · have e1 : Dsk.cl 0 D.pd.length = 0 := by
      unfold Dsk.cl
      split
      · rfl
      · split
        · rfl
        · omega
    have e2 : Dsk.cl 0 64 = 0 := by decide
    show Dsk.torn _ _ _ _ = _
    rw [e1, e2]
    unfold Dsk.torn
    simp only [List.take_zero, Dsk.settle_nil, put_nil]
    split <;> rfl
/-- The sectors' bytes, one after the other. -/
theorem bytes_all (st : List UInt8) : ∀ n, st.length = 64 * n → ((List.range n).map fun s => Dsk.bytes st s).flatten = st := by
  have key : ∀ k, ((List.range k).map fun s => Dsk.bytes st s).flatten = st.take (64 * k) := by
    intro k
    induction k with
    | zero => simp
    | succ k ih =>
      rw [List.range_succ, List.map_append, List.flatten_append, ih]
      show st.take (64 * k) ++ [Dsk.bytes st k].flatten = _
      unfold Dsk.bytes
      rw [List.flatten_singleton, show 64 * (k + 1) = 64 * k + 64 by omega, List.take_add]
  intro n h
  rw [key n, List.take_of_length_le (by omega)]
theorem seen_calm {D : Dsk.Dk} (h : D.pd = []) (s : Nat) : Dsk.seen D s = ⟨(Dsk.bytes D.st s).toArray⟩ := by
  unfold Dsk.seen
  rw [h]
  rfl

end Go.Proofs.Ytenddmcepfkbaaa
