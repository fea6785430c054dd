/- Few; lists that have just been laid. -/
import Derived.Test.YtfokbcakbbdlaaaHldOps
namespace Go.Proofs.Ytfokbcakbbdlaaa
open Go.RowKit
open Hld (Rc Hd)

theorem strs_of_whole {w : World} {g : Nat} {ss : List ByteArray} (h : Whole w g 9 (strC ss).toArray) : IsStrs w (some ⟨g, 0, none⟩) ss :=
  Or.inr ⟨g, 0, rfl, h.lt, fun k hk => by
    rw [Nat.zero_add, h.cell]
    unfold strC
    rw [List.getElem?_toArray, List.getElem?_map, List.getElem?_eq_getElem hk]
    rfl⟩
theorem ints_of_whole {w : World} {g : Nat} {zs : List Int} (h : Whole w g 3 (intsC zs).toArray) : IsInts w (some ⟨g, 0, none⟩) zs :=
  Or.inr ⟨g, 0, rfl, h.lt, fun k hk => by
    rw [Nat.zero_add, h.cell]
    unfold intsC
    rw [List.getElem?_toArray, List.getElem?_map, List.getElem?_eq_getElem hk]
    rfl⟩
def recsC (l : List Rc) : List Value := l.flatMap (·.cells)
theorem recsC_len : ∀ (l : List Rc), (∀ r ∈ l, RcOk r) → (recsC l).length = l.length * 36
  | [], _ => rfl
  | r :: l, h => by
    show (r.cells ++ recsC l).length = _
    rw [List.length_append, recsC_len l (fun x hx => h x (List.mem_cons_of_mem _ hx)), (h r (List.mem_cons_self ..)).len, List.length_cons]
    omega
theorem recsC_at : ∀ (l : List Rc), (∀ r ∈ l, RcOk r) → ∀ (k : Nat) (hk : k < l.length) (j : Nat) (v : Value), l[k].cells[j]? = some v → (recsC l)[k * 36 + j]? = some v
  | r :: l, h, 0, _, j, v, hj => by
    have hl := (h r (List.mem_cons_self ..)).len
    have hj' : j < 36 := by rw [← hl]; exact (List.getElem?_eq_some_iff.1 hj).1
    show (r.cells ++ recsC l)[0 * 36 + j]? = _
    rw [List.getElem?_append_left (by omega)]
    simpa using hj
  | r :: l, h, k + 1, hk, j, v, hj => by
    have hl := (h r (List.mem_cons_self ..)).len
    have ih := recsC_at l (fun x hx => h x (List.mem_cons_of_mem _ hx)) k (by simpa using hk) j v hj
    show (r.cells ++ recsC l)[(k + 1) * 36 + j]? = _
    rw [List.getElem?_append_right (by omega), show (k + 1) * 36 + j - r.cells.length = k * 36 + j by omega]
    exact ih
theorem recs_of_whole {w : World} {g : Nat} {l : List Rc} (h : Whole w g 54 (recsC l).toArray) (hl : ∀ r ∈ l, RcOk r ∧ IsInts w r.mo r.members) : IsRecs w (some ⟨g, 0, none⟩) l :=
  ⟨hl, Or.inr ⟨g, 0, rfl, h.lt, fun k hk j v hv => by
    rw [Nat.zero_add, h.cell, List.getElem?_toArray]
    exact recsC_at l (fun r hr => (hl r hr).1) k hk j v hv⟩⟩

set_option maxRecDepth 100000 in
set_option maxHeartbeats 4000000 in
theorem few_any (ids : List ByteArray) (recs : List Rc) (io ro : Option Addr) (ic rc : Nat) (hn : recs.length ≤ 9223372036854775807) (hm : ids.length ≤ 9223372036854775807) (W : World) (hi : IsStrs W io ids) (hr : IsRecs W ro recs) :
    Calls Try.prog 10 #[.slice io ids.length ic, .slice ro recs.length rc] W fun e w' => ∃ b, e = .returned (.bool b) ∧ (b = true → recs.length ≤ 30 ∧ ids.length ≤ 30 ∧ (∀ r ∈ recs, r.members.length ≤ 20) ∧ ∀ s ∈ ids, s.size ≤ 100) ∧ W = w' := by
  have key : Calls Try.prog 21 #[.slice io ids.length ic, .slice ro recs.length rc, .int .i64 30] W fun e w' => ∃ b, e = .returned (.bool b) ∧ (b = true → recs.length ≤ 30 ∧ ids.length ≤ 30 ∧ (∀ r ∈ recs, r.members.length ≤ 20) ∧ ∀ s ∈ ids, s.size ≤ 100) ∧ W = w' := by
    have HI := Lib.hid hi
    have HR := Lib.hid hr
    clear hi hr
    obtain ⟨n, Hn⟩ : ∃ n, Hid (n = recs.length) := ⟨_, Lib.hid rfl⟩
    obtain ⟨m, Hm⟩ : ∃ n, Hid (n = ids.length) := ⟨_, Lib.hid rfl⟩
    rw [← Hn.out] at hn
    rw [← Hm.out] at hm
    rw [← Hn.out, ← Hm.out]
    by_cases h1 : 30 < n
    · have d1 : decide ((30 : Int) < (n : Int)) = true := decide_eq_true (by omega)
      go_enter Try.func21, Try.ntmps21
      go_wp2_with fail
      go_ret
      exact ⟨false, rfl, (fun h => by cases h), rfl⟩
    have d1 : decide ((30 : Int) < (n : Int)) = false := decide_eq_false (by omega)
    by_cases h2 : 30 < m
    · have d2 : decide ((30 : Int) < (m : Int)) = true := decide_eq_true (by omega)
      go_enter Try.func21, Try.ntmps21
      go_wp2_with fail
      go_ret
      exact ⟨false, rfl, (fun h => by cases h), rfl⟩
    have d2 : decide ((30 : Int) < (m : Int)) = false := decide_eq_false (by omega)
    go_enter Try.func21, Try.ntmps21
    go_wp2_with fail
    go_loopw [7] (fun i wr => ∃ k : Nat, k ≤ n ∧ i = .int .i64 k ∧ wr = W ∧ Hid (∀ r ∈ recs.take k, r.members.length ≤ 20)) (fun i _ => n - (intOf i).toNat)
    case atStart => exact ⟨0, Nat.zero_le _, by go_num, rfl, Lib.hid (by simp)⟩
    case round =>
      obtain ⟨k, hk, rfl, hw, HX⟩ := hrel
      replace hw := hw.symm
      subst hw
      by_cases hkn : k < n
      · have hd : decide ((k : Int) < n) = true := decide_eq_true (by omega)
        have hb0 : (0 : Int) ≤ k := by omega
        have hb1 : (k : Int) < n := by omega
        have hkr : k < recs.length := by rw [← Hn.out]; exact hkn
        obtain ⟨bk, off, rfl, hbk, hrg, hok, -⟩ := HR.out.at hkr
        have c8 := hrg 8 _ hok.c8
        have c6 := hrg 6 _ hok.c6
        have c5 := hrg 5 _ hok.c5
        obtain ⟨ml, Hml⟩ : ∃ x, Hid (x = recs[k].members.length) := ⟨_, Lib.hid rfl⟩
        obtain ⟨na, Hna⟩ : ∃ x, Hid (x = recs[k].name) := ⟨_, Lib.hid rfl⟩
        obtain ⟨ta, Hta⟩ : ∃ x, Hid (x = recs[k].target) := ⟨_, Lib.hid rfl⟩
        rw [← Hml.out] at c8
        rw [← Hna.out] at c6
        rw [← Hta.out] at c5
        clear hrg hok
        by_cases q1 : 20 < ml
        · have e1 : decide ((20 : Int) < (ml : Int)) = true := decide_eq_true (by omega)
          go_wp2_with fail
          go_ret
          exact ⟨false, rfl, (fun h => by cases h), rfl⟩
        have e1 : decide ((20 : Int) < (ml : Int)) = false := decide_eq_false (by omega)
        by_cases q2 : 100 < na.size
        · have e2 : decide ((100 : Int) < (na.size : Int)) = true := decide_eq_true (by omega)
          go_wp2_with fail
          go_ret
          exact ⟨false, rfl, (fun h => by cases h), rfl⟩
        have e2 : decide ((100 : Int) < (na.size : Int)) = false := decide_eq_false (by omega)
        by_cases q3 : 100 < ta.size
        · have e3 : decide ((100 : Int) < (ta.size : Int)) = true := decide_eq_true (by omega)
          go_wp2_with fail
          go_ret
          exact ⟨false, rfl, (fun h => by cases h), rfl⟩
        have e3 : decide ((100 : Int) < (ta.size : Int)) = false := decide_eq_false (by omega)
        have HN : Hid (∀ r ∈ recs.take (k + 1), r.members.length ≤ 20) := Lib.hid (fun r hr => by
          rw [List.take_succ_eq_append_getElem hkr] at hr
          rcases List.mem_append.1 hr with hr | hr
          · exact HX.out r hr
          · rw [List.mem_singleton.1 hr, ← Hml.out]; omega)
        go_wp2_with fail
        go_round
        case rel => exact ⟨k + 1, by omega, by go_num, trivial, HN⟩
        case measure => simp [intOf]; omega
      · have hd : decide ((k : Int) < n) = false := decide_eq_false (by omega)
        have HXa : Hid (∀ r ∈ recs, r.members.length ≤ 20) := Lib.hid (by
          have := HX.out
          rwa [List.take_of_length_le (by rw [← Hn.out]; omega)] at this)
        clear HX
        go_wp2_with fail
        go_loopw [8] (fun i wr => ∃ k : Nat, k ≤ m ∧ i = .int .i64 k ∧ wr = W ∧ Hid (∀ s ∈ ids.take k, s.size ≤ 100)) (fun i _ => m - (intOf i).toNat)
        case atStart => exact ⟨0, Nat.zero_le _, by go_num, rfl, Lib.hid (by simp)⟩
        case round =>
          obtain ⟨k, hk, rfl, hw, HX⟩ := hrel
          replace hw := hw.symm
          subst hw
          by_cases hkm : k < m
          · have hd : decide ((k : Int) < m) = true := decide_eq_true (by omega)
            have hb0 : (0 : Int) ≤ k := by omega
            have hb1 : (k : Int) < m := by omega
            have hki : k < ids.length := by rw [← Hm.out]; exact hkm
            obtain ⟨bi, offi, rfl, hbi, hci⟩ := HI.out.at hki
            obtain ⟨s, Hs⟩ : ∃ x, Hid (x = ids[k]) := ⟨_, Lib.hid rfl⟩
            rw [← Hs.out] at hci
            by_cases q1 : 100 < s.size
            · have e1 : decide ((100 : Int) < (s.size : Int)) = true := decide_eq_true (by omega)
              go_wp2_with fail
              go_ret
              exact ⟨false, rfl, (fun h => by cases h), rfl⟩
            have e1 : decide ((100 : Int) < (s.size : Int)) = false := decide_eq_false (by omega)
            have HN : Hid (∀ s ∈ ids.take (k + 1), s.size ≤ 100) := Lib.hid (fun r hr => by
              rw [List.take_succ_eq_append_getElem hki] at hr
              rcases List.mem_append.1 hr with hr | hr
              · exact HX.out r hr
              · rw [List.mem_singleton.1 hr, ← Hs.out]; omega)
            go_wp2_with fail
            go_round
            case rel => exact ⟨k + 1, by omega, by go_num, trivial, HN⟩
            case measure => simp [intOf]; omega
          · have hd : decide ((k : Int) < m) = false := decide_eq_false (by omega)
            have hX := HX.out
            rw [List.take_of_length_le (by rw [← Hm.out]; omega)] at hX
            go_wp2_with fail
            go_ret
            exact ⟨true, rfl, fun _ => ⟨by omega, by omega, HXa.out, hX⟩, rfl⟩
  have HK := Lib.hid key
  clear key hi hr
  obtain ⟨n, Hn⟩ : ∃ n, Hid (n = recs.length) := ⟨_, Lib.hid rfl⟩
  obtain ⟨m, Hm⟩ : ∃ n, Hid (n = ids.length) := ⟨_, Lib.hid rfl⟩
  rw [← Hn.out, ← Hm.out] at HK
  rw [← Hn.out, ← Hm.out]
  go_enter Try.func10, Try.ntmps10
  go_wp2_with fail
  refine HK.out.mono ?_
  rintro e w' ⟨b, rfl, hb, hw⟩
  subst hw
  have HB := Lib.hid hb
  clear hb
  go_wp2_with fail
  go_ret
  exact ⟨b, rfl, HB.out, rfl⟩

end Go.Proofs.Ytfokbcakbbdlaaa
