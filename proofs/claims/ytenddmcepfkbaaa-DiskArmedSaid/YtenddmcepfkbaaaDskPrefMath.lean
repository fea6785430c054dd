/- The mathematics of a failure's first writes. -/
import Derived.Test.YtenddmcepfkbaaaDskSpare
namespace Go.Proofs.Ytenddmcepfkbaaa
open Go.RowKit

/-- The writes that succeed, in their order. -/
def vw (n : Nat) (l : List Ac) : List (Nat × ByteArray) := l.filterMap fun a => if Dsk.has n a.sector && ((textV a.odd a.text).size == 64) then some (a.sector.toNat, textV a.odd a.text) else none
theorem vw_len (n : Nat) (l : List Ac) : (vw n l).length ≤ l.length := List.length_filterMap_le _ _
theorem vw_yes {n : Nat} {l : List Ac} {k : Nat} (h : k < l.length) (hv : (Dsk.has n l[k].sector && ((textV l[k].odd l[k].text).size == 64)) = true) : vw n (l.take (k + 1)) = vw n (l.take k) ++ [(l[k].sector.toNat, textV l[k].odd l[k].text)] := by
  unfold vw
  rw [List.take_succ_eq_append_getElem h, List.filterMap_append]
  simp only [List.filterMap_cons, List.filterMap_nil, hv, if_true]
theorem vw_no {n : Nat} {l : List Ac} {k : Nat} (h : k < l.length) (hv : (Dsk.has n l[k].sector && ((textV l[k].odd l[k].text).size == 64)) = false) : vw n (l.take (k + 1)) = vw n (l.take k) := by
  unfold vw
  rw [List.take_succ_eq_append_getElem h, List.filterMap_append]
  simp only [List.filterMap_cons, List.filterMap_nil, hv, Bool.false_eq_true, if_false, List.append_nil]
theorem vw_first (n : Nat) (l : List Ac) (k : Nat) : (vw n l).take (vw n (l.take k)).length = vw n (l.take k) := by
  have h : vw n l = vw n (l.take k) ++ vw n (l.drop k) := by
    unfold vw
    rw [← List.filterMap_append, List.take_append_drop]
  rw [h, List.take_left]
theorem vw_fine {n : Nat} {l : List Ac} : ∀ p ∈ vw n l, p.1 < n ∧ p.2.size = 64 := by
  intro p hp
  obtain ⟨a, _, ha⟩ := List.mem_filterMap.1 hp
  split at ha
  · rename_i hv
    rw [Bool.and_eq_true] at hv
    have h1 := Dsk.has_iff.1 hv.1
    obtain rfl := Option.some.inj ha
    exact ⟨by show a.sector.toNat < n; omega, eq_of_beq hv.2⟩
  · cases ha

/-- The disk with these writes pending. -/
def pnd (D : Dsk.Dk) (q : List (Nat × ByteArray)) : Dsk.Dk := { D with pd := q }
theorem wr_self {D : Dsk.Dk} (h : D.pd = []) : pnd D [] = D := by unfold pnd; rw [← h]
theorem wr_calm {D : Dsk.Dk} (h : Calm D) (q : List (Nat × ByteArray)) : Calm (pnd D q) := h
theorem wr_yes {n : Nat} {D : Dsk.Dk} (h : Calm D) (q : List (Nat × ByteArray)) {s : Int} {t : ByteArray} (hv : (Dsk.has n s && (t.size == 64)) = true) : Dsk.writeD n (pnd D q) s t = pnd D (q ++ [(s.toNat, t)]) ∧ Dsk.writeE n (pnd D q) s t = 0 := by
  have h1 := (calm_write (n := n) (wr_calm h q) s t).2.2
  rw [hv] at h1
  exact h1
theorem wr_no {n : Nat} {D : Dsk.Dk} (h : Calm D) (q : List (Nat × ByteArray)) {s : Int} {t : ByteArray} (hv : (Dsk.has n s && (t.size == 64)) = false) : Dsk.writeD n (pnd D q) s t = pnd D q ∧ Dsk.writeE n (pnd D q) s t = 1 := by
  have h1 := (calm_write (n := n) (wr_calm h q) s t).2.2
  rw [hv] at h1
  exact h1

theorem bytes_put_same {st : List UInt8} {s : Nat} {t : List UInt8} (h : 64 * s + 64 ≤ st.length) (ht : t.length ≤ 64) : Dsk.bytes (Dsk.put st s t) s = t ++ (Dsk.bytes st s).drop t.length := by
  unfold Dsk.bytes Dsk.put
  rw [List.append_assoc, List.drop_append_of_le_length (by rw [List.length_take]; omega), List.drop_of_length_le (by rw [List.length_take]; omega), List.nil_append, List.take_append, List.take_of_length_le ht]
  congr 1
  rw [List.drop_take, List.drop_drop]
/-- What is seen is what settling leaves. -/
theorem seen_settled {n : Nat} (st : List UInt8) (hst : st.length = 64 * n) (D : Dsk.Dk) (hD : D.st = st) (j : Nat) :
    ∀ (m : Nat) (q : List (Nat × ByteArray)), q.length = m → (∀ p ∈ q, p.1 < n ∧ p.2.size = 64) → Dsk.seen (pnd D q) j = ⟨(Dsk.bytes (Dsk.settle st q) j).toArray⟩ := by
  intro m
  induction m with
  | zero =>
    intro q hq _
    obtain rfl := List.eq_nil_of_length_eq_zero hq
    rw [seen_calm rfl]
    show (⟨(Dsk.bytes D.st j).toArray⟩ : ByteArray) = _
    rw [hD]
    rfl
  | succ m ih =>
    intro q hq hp
    obtain ⟨q', p, rfl⟩ : ∃ q' p, q = q' ++ [p] := ⟨q.dropLast, q.getLast (by intro e; simp [e] at hq), (List.dropLast_concat_getLast _).symm⟩
    obtain ⟨s, t⟩ := p
    have hq' : q'.length = m := by simpa using hq
    have hp' := hp (s, t) (by simp)
    have ht : t.data.toList.length = 64 := hp'.2
    have hsl := Dsk.settle_len q' st hst (fun p h => hp p (List.mem_append_left _ h))
    have hsn : s < n := hp'.1
    rw [Dsk.settle_snoc]
    have h1 := seen_added (pnd D q') s t j
    have h2 : Dsk.added (pnd D q') (s : Int) t = pnd D (q' ++ [(s, t)]) := rfl
    rw [h2] at h1
    rw [h1]
    by_cases e : s = j
    · subst e
      rw [if_pos rfl]
      show t = ⟨(Dsk.bytes (Dsk.put _ s t.data.toList) s).toArray⟩
      rw [bytes_put_same (by omega) (by omega), ht, List.drop_of_length_le (by unfold Dsk.bytes; rw [List.length_take]; omega), List.append_nil]
    · rw [if_neg e, ih q' hq' (fun p h => hp p (List.mem_append_left _ h))]
      show _ = (⟨(Dsk.bytes (Dsk.put _ s t.data.toList) j).toArray⟩ : ByteArray)
      rw [bytes_put (by omega) (by omega) e]

theorem cl_min (w m : Nat) : Dsk.cl (w : Int) m = min w m := by
  have := Dsk.cl_cases (w : Int) m
  omega
/-- What is seen after the failure, if no write is torn. -/
theorem seen_cut {n : Nat} {D D5 : Dsk.Dk} (hst : D.st.length = 64 * n) (hC : Calm D) {q : List (Nat × ByteArray)} (hq : ∀ p ∈ q, p.1 < n ∧ p.2.size = 64) (w b : Nat) (hw : q.length ≤ w) (hD : D5 = Dsk.startD (Dsk.fail (pnd D q) w b)) (j : Nat) :
    Dsk.seen D5 j = Dsk.seen (pnd D (q.take w)) j := by
  subst hD
  have h1 : (Dsk.startD (Dsk.fail (pnd D q) w b)).pd = [] := fail_pd (D := pnd D q) hC.1 _ _
  rw [seen_calm h1, List.take_of_length_le hw, seen_settled D.st hst D rfl j _ q rfl hq]
  have h2 : (Dsk.startD (Dsk.fail (pnd D q) w b)).st = Dsk.settle D.st q := by
    show (Dsk.fail (pnd D q) w b).st = _
    rw [fail_on_eq (wr_calm hC q).1]
    show Dsk.torn (Dsk.settle D.st (q.take (Dsk.cl w q.length))) q (Dsk.cl w q.length) _ = _
    rw [cl_min, Nat.min_eq_right hw, List.take_length]
    unfold Dsk.torn
    rw [List.getElem?_eq_none (Nat.le_refl _)]
  rw [h2]
/-- What is seen after it, if one is. -/
theorem seen_torn {n : Nat} {D D5 : Dsk.Dk} (hst : D.st.length = 64 * n) (hC : Calm D) {q : List (Nat × ByteArray)} (hq : ∀ p ∈ q, p.1 < n ∧ p.2.size = 64) (w b : Nat) (hw : w < q.length) (hb : b ≤ 64) (hD : D5 = Dsk.startD (Dsk.fail (pnd D q) w b)) (j : Nat) :
    Dsk.seen D5 j = if q[w].1 = j then ⟨(q[w].2.data.toList.take b ++ (Dsk.seen (pnd D (q.take w)) j).data.toList.drop b).toArray⟩ else Dsk.seen (pnd D (q.take w)) j := by
  subst hD
  have h1 : (Dsk.startD (Dsk.fail (pnd D q) w b)).pd = [] := fail_pd (D := pnd D q) hC.1 _ _
  have hqt : ∀ p ∈ q.take w, p.1 < n ∧ p.2.size = 64 := fun p hp => hq p (List.mem_of_mem_take hp)
  have hsl := Dsk.settle_len (q.take w) D.st hst hqt
  have hwq := hq q[w] (List.getElem_mem hw)
  have ht : q[w].2.data.toList.length = 64 := hwq.2
  rw [seen_calm h1, seen_settled D.st hst D rfl j _ (q.take w) rfl hqt]
  have h2 : (Dsk.startD (Dsk.fail (pnd D q) w b)).st = Dsk.put (Dsk.settle D.st (q.take w)) q[w].1 (q[w].2.data.toList.take b) := by
    show (Dsk.fail (pnd D q) w b).st = _
    rw [fail_on_eq (wr_calm hC q).1]
    show Dsk.torn (Dsk.settle D.st (q.take (Dsk.cl w q.length))) q (Dsk.cl w q.length) (Dsk.cl b 64) = _
    rw [cl_min, cl_min, Nat.min_eq_left (by omega), Nat.min_eq_left hb]
    unfold Dsk.torn
    rw [List.getElem?_eq_getElem hw]
  rw [h2]
  by_cases e : q[w].1 = j
  · subst e
    rw [if_pos rfl, bytes_put_same (by omega) (by rw [List.length_take]; omega), List.length_take, Nat.min_eq_left (by omega)]
  · rw [if_neg e, bytes_put (by rw [List.length_take]; omega) (by rw [List.length_take]; omega) e]

end Go.Proofs.Ytenddmcepfkbaaa
