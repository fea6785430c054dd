/- The reference's components as mathematics: the least index that each report is known to belong with. -/
import Derived.Test.YtolnpimnoajcaaaLnkConM
import Derived.Test.YtolnpimnoajcaaaLnkSame
import Derived.Test.YtolnpimnoajcaaaLnkGrp
import Derived.Test.YtolnpimnoajcaaaRefReport
import Derived.Test.YtolnpimnoajcaaaLnkDoubts
import Derived.Test.YtolnpimnoajcaaaLnkInts
import Derived.Test.YtolnpimnoajcaaaLnkOf1
import Derived.Test.YtolnpimnoajcaaaAppApart
import Derived.Deep.OwnRows
import Derived.Test.YtolnpimnoajcaaaLnkOfA
import Derived.Test.YtolnpimnoajcaaaLnkHead
namespace Go.Proofs.Ytolnpimnoajcaaa
open Go.RowKit
open Evt

namespace Lnk
/-- Two lists have a common text. -/
def comB (a b : List (List UInt8)) : Bool := a.any fun x => decide (x ∈ b)
theorem comB_iff {a b : List (List UInt8)} : comB a b = true ↔ ∃ x, x ∈ a ∧ x ∈ b := by
  unfold comB
  rw [List.any_eq_true]
  exact ⟨fun ⟨x, h1, h2⟩ => ⟨x, h1, of_decide_eq_true h2⟩, fun ⟨x, h1, h2⟩ => ⟨x, h1, decide_eq_true h2⟩⟩
/-- The least indices, as they are known so far. -/
structure Lst (n : Nat) (N : Nat → List (List UInt8)) (L : Nat → Nat) : Prop where
  le : ∀ i, i < n → L i ≤ i
  fix : ∀ i, i < n → L (L i) = L i
  sound : ∀ a b, a < n → b < n → L a = L b → Conn n N a b
def cntF (n : Nat) (L : Nat → Nat) : Nat := (List.range n).countP fun i => L i == i
theorem Lst.start (n : Nat) (N : Nat → List (List UInt8)) : Lst n N (fun i => i) := ⟨fun _ _ => Nat.le_refl _, fun _ _ => rfl, fun a b _ _ h => by subst h; exact .refl _⟩
def mrg (L : Nat → Nat) (low high : Nat) : Nat → Nat := fun j => if L j = high then low else L j
/-- Two sets become one. -/
theorem Lst.merge {n : Nat} {N : Nat → List (List UInt8)} {L : Nat → Nat} (h : Lst n N L) {i k low high : Nat} (hi : i < n) (hk : k < n) (hlt : low < high) (hv : (L i = low ∧ L k = high) ∨ (L i = high ∧ L k = low)) (hc : comB (N i) (N k) = true) :
    Lst n N (mrg L low high) ∧ cntF n (mrg L low high) < cntF n L := by
  obtain ⟨x, hx1, hx2⟩ := comB_iff.1 hc
  have hik : Conn n N i k := .step hi hk (.refl _) hx1 hx2
  have hlow : L low = low := by
    rcases hv with ⟨h1, _⟩ | ⟨_, h1⟩
    · rw [← h1]; exact h.fix i hi
    · rw [← h1]; exact h.fix k hk
  have hhigh : L high = high := by
    rcases hv with ⟨_, h1⟩ | ⟨h1, _⟩
    · rw [← h1]; exact h.fix k hk
    · rw [← h1]; exact h.fix i hi
  have hhn : high < n := by
    rcases hv with ⟨_, h1⟩ | ⟨h1, _⟩
    · have := h.le k hk; omega
    · have := h.le i hi; omega
  have toC : ∀ a, a < n → L a = high → ∀ b, b < n → L b = low → Conn n N a b := fun a ha h1 b hb h2 => by
    rcases hv with ⟨h3, h4⟩ | ⟨h3, h4⟩
    · exact ((h.sound a k ha hk (h1.trans h4.symm)).trans hik.symm).trans (h.sound i b hi hb (h3.trans h2.symm))
    · exact ((h.sound a i ha hi (h1.trans h3.symm)).trans hik).trans (h.sound k b hk hb (h4.trans h2.symm))
  refine ⟨⟨fun j hj => ?_, fun j hj => ?_, fun a b ha hb e => ?_⟩, ?_⟩
  · unfold mrg
    have := h.le j hj
    split
    · omega
    · exact this
  · unfold mrg
    by_cases e : L j = high
    · simp only [e, if_true]
      rw [hlow, if_neg (by omega)]
    · simp only [e, if_false]
      rw [h.fix j hj, if_neg e]
  · unfold mrg at e
    by_cases e1 : L a = high <;> by_cases e2 : L b = high
    · exact h.sound a b ha hb (e1.trans e2.symm)
    · simp only [e1, e2, if_true, if_false] at e
      exact toC a ha e1 b hb e.symm
    · simp only [e1, e2, if_true, if_false] at e
      exact (toC b hb e2 a ha e).symm
    · simp only [e1, e2, if_false] at e
      exact h.sound a b ha hb e
  · unfold cntF
    refine cnt_lt (p := fun i => mrg L low high i == i) (q := fun i => L i == i) (m := n) (b := high) (fun j hj hp => ?_) hhn ?_ (by simp [hhigh])
    · have hp' : mrg L low high j = j := by simpa using hp
      unfold mrg at hp'
      by_cases e : L j = high
      · rw [if_pos e] at hp'
        have := h.le j hj
        omega
      · rw [if_neg e] at hp'
        simp [hp']
    · simp [mrg, hhigh]; omega
/-- Nothing more to do: two indices have one value exactly if they are connected. -/
theorem Lst.closed {n : Nat} {N : Nat → List (List UInt8)} {L : Nat → Nat} (h : Lst n N L) (hc : ∀ i k, i < n → k < i → comB (N i) (N k) = true → L i = L k) : ∀ a b, a < n → b < n → (L a = L b ↔ Conn n N a b) := by
  intro a b ha hb
  refine ⟨h.sound a b ha hb, fun hcn => ?_⟩
  have := conn_closed (S := fun i => L a = L i) (fun j k x hj hk hs h1 h2 => ?_) hcn rfl
  · exact this
  · rcases Nat.lt_trichotomy j k with hlt | he | hlt
    · exact hs.trans (hc k j hk hlt (comB_iff.2 ⟨x, h2, h1⟩)).symm
    · subst he; exact hs
    · exact hs.trans (hc j k hj hlt (comB_iff.2 ⟨x, h1, h2⟩))
theorem Lst.reps {n : Nat} {N : Nat → List (List UInt8)} {L : Nat → Nat} (h : Lst n N L) : Lnk.reps L n = (List.range n).filter fun i => L i == i := by
  unfold Lnk.reps
  refine List.filter_congr fun i hi => ?_
  have hi : i < n := by simpa using hi
  rw [Bool.eq_iff_iff]
  simp only [List.all_eq_true, List.mem_range, bne_iff_ne, ne_eq, beq_iff_eq]
  constructor
  · intro hh
    apply Classical.byContradiction
    intro hne
    have hle := h.le i hi
    exact hh (L i) (by omega) (h.fix i hi)
  · intro he j hj e
    have := h.le j (by omega)
    omega
/-- The sets as they are put together. -/
def outF (L : Nat → Nat) (n k : Nat) : List (List Nat) := ((List.range k).filter fun i => L i == i).map fun i => (List.range n).filter fun j => L j == i
theorem outF_succ (L : Nat → Nat) (n k : Nat) : outF L n (k + 1) = outF L n k ++ if L k = k then [(List.range n).filter fun j => L j == k] else [] := by
  unfold outF
  rw [List.range_succ, List.filter_append, List.map_append]
  by_cases e : L k = k
  · simp [e]
  · simp [e]
theorem Lst.groups {n : Nat} {N : Nat → List (List UInt8)} {L : Nat → Nat} (h : Lst n N L) : outF L n n = Lnk.groups L n := by
  unfold outF Lnk.groups
  rw [h.reps]
  refine List.map_congr_left fun i hi => ?_
  have hi := (List.mem_filter.1 hi).2
  have hi : L i = i := by simpa using hi
  rw [hi]
/-- One set, from its first index on. -/
def oneF (L : Nat → Nat) (i k : Nat) : List Nat := (List.range k).filter fun j => L j == i
theorem oneF_succ (L : Nat → Nat) (i k : Nat) : oneF L i (k + 1) = oneF L i k ++ if L k = i then [k] else [] := by
  unfold oneF
  rw [List.range_succ, List.filter_append]
  by_cases e : L k = i
  · simp [e]
  · simp [e]
theorem Lst.one {n : Nat} {N : Nat → List (List UInt8)} {L : Nat → Nat} (h : Lst n N L) {i : Nat} (hi : i ≤ n) : oneF L i i = [] := by
  unfold oneF
  rw [List.filter_eq_nil_iff]
  intro j hj
  have hj : j < i := by simpa using hj
  have := h.le j (by omega)
  simp; omega
theorem oneF_len (L : Nat → Nat) (i k : Nat) : (oneF L i k).length ≤ k := by
  unfold oneF
  have := List.length_filter_le (fun j => L j == i) (List.range k)
  rwa [List.length_range] at this
theorem outF_len (L : Nat → Nat) (n k : Nat) : (outF L n k).length ≤ k := by
  unfold outF
  rw [List.length_map]
  have := List.length_filter_le (fun j => L j == j) (List.range k)
  rwa [List.length_range] at this
theorem mrg_upto (L : Nat → Nat) (low high j : Nat) : ∀ x, (if x < j + 1 then mrg L low high x else L x) = if x = j then mrg L low high j else (if x < j then mrg L low high x else L x) := fun x => by
  by_cases e : x = j
  · subst e; simp
  · by_cases h : x < j
    · rw [if_pos (by omega), if_neg e, if_pos h]
    · rw [if_neg (by omega), if_neg e, if_neg h]
end Lnk
end Go.Proofs.Ytolnpimnoajcaaa

/- The reference: common, Doubts. -/
namespace Go.Proofs.Ytolnpimnoajcaaa
open Go.RowKit
open Evt Lnk

set_option maxRecDepth 100000 in
set_option maxHeartbeats 8000000 in
theorem common_any (a b : List (List UInt8)) (ha : a.length ≤ 1000000) (hb : b.length ≤ 1000000) (W : World) (va vb : Value) (h1 : IsS W va a) (h2 : IsS W vb b) :
    Calls Try.prog 30 #[va, vb] W fun e w' => e = .returned (.bool (comB a b)) ∧ Below W.heap.size W w' := by
  obtain ⟨R, HR⟩ : ∃ y, Hid (y = comB a b) := ⟨_, Lib.hid rfl⟩
  rw [← HR.out]
  have HA := Lib.hid h1
  have HB := Lib.hid h2
  obtain ⟨ao, ac, rfl, -⟩ := h1
  obtain ⟨bo, bc, rfl, -⟩ := h2
  obtain ⟨n, Hn⟩ : ∃ n, Hid (n = a.length) := ⟨_, Lib.hid rfl⟩
  obtain ⟨m, Hm⟩ : ∃ n, Hid (n = b.length) := ⟨_, Lib.hid rfl⟩
  rw [← Hn.out] at ha HA ⊢
  rw [← Hm.out] at hb HB ⊢
  go_enter Try.func30, Try.ntmps30
  go_wp2_with fail
  go_loopw [5] (fun i wr => ∃ k : Nat, k ≤ n ∧ i = .int .i64 k ∧ Hid (Below W.heap.size W wr ∧ (a.take k).any (fun x => decide (x ∈ b)) = false)) (fun i _ => n - (intOf i).toNat)
  case atStart => exact ⟨0, Nat.zero_le _, by go_num, Lib.hid ⟨Below.refl _ _, rfl⟩⟩
  case round =>
    obtain ⟨k, hk, rfl, HK⟩ := hrel
    by_cases hkn : k < n
    · have hd : decide ((k : Int) < n) = true := decide_eq_true (by omega)
      have hb0 : (0 : Int) ≤ k := by omega
      have hb1 : (k : Int) < n := by omega
      have hka : k < a.length := by rw [← Hn.out]; exact hkn
      obtain ⟨s, Hs⟩ : ∃ s, Hid (s = a[k]) := ⟨_, Lib.hid rfl⟩
      obtain ⟨wo, rfl⟩ : ∃ y, y = wr := ⟨_, rfl⟩
      go_wp2_with fail
      go_loopw [6] (fun i ws => ∃ j : Nat, j ≤ m ∧ i = .int .i64 j ∧ Hid (Below W.heap.size W ws ∧ s ∉ b.take j)) (fun i _ => m - (intOf i).toNat)
      case atStart => exact ⟨0, Nat.zero_le _, by go_num, Lib.hid ⟨HK.out.1, by simp⟩⟩
      case round =>
        obtain ⟨j, hj, rfl, HJ⟩ := hrel
        by_cases hjm : j < m
        · have hd2 : decide ((j : Int) < m) = true := decide_eq_true (by omega)
          have hj0 : (0 : Int) ≤ j := by omega
          have hj1 : (j : Int) < m := by omega
          have hjb : j < b.length := by rw [← Hm.out]; exact hjm
          obtain ⟨ba, rfl, hba, ca⟩ := isS_at (HA.out.below HJ.out.1) hka
          obtain ⟨bb, rfl, hbb, cb⟩ := isS_at (HB.out.below HJ.out.1) hjb
          rw [← Hs.out] at ca
          obtain ⟨t, Ht⟩ : ∃ s, Hid (s = b[j]) := ⟨_, Lib.hid rfl⟩
          rw [← Ht.out] at cb
          obtain ⟨sv, Hsv⟩ : ∃ y : ByteArray, Hid (y = ⟨s.toArray⟩) := ⟨_, Lib.hid rfl⟩
          obtain ⟨tv, Htv⟩ : ∃ y : ByteArray, Hid (y = ⟨t.toArray⟩) := ⟨_, Lib.hid rfl⟩
          rw [← Hsv.out] at ca
          rw [← Htv.out] at cb
          have HEq : Hid ((sv.toList == tv.toList) = decide (s = t)) := Lib.hid (by
            rw [Hsv.out, eq_listL, Htv.out]
            congr 1)
          have ga : ∀ Z : Grown wr, Z.w.cell? ⟨ba, k, none⟩ = some (.string sv) := fun Z => (cellB Z.below hba).trans ca
          have gb : ∀ Z : Grown wr, Z.w.cell? ⟨bb, j, none⟩ = some (.string tv) := fun Z => (cellB Z.below hbb).trans cb
          clear ca cb
          by_cases hst : s = t
          · have e1 : (sv.toList == tv.toList) = true := by rw [HEq.out]; exact decide_eq_true hst
            have HRt : Hid (R = true) := Lib.hid (by
              rw [HR.out, comB_iff]
              exact ⟨s, by rw [Hs.out]; exact List.getElem_mem hka, by rw [hst, Ht.out]; exact List.getElem_mem hjb⟩)
            obtain rfl := HRt.out
            clear hst
            go_wp2_with fail
            refine wp_region_grown (by kernel_rfl) (by kernel_rfl) ?_
            repeat (go_big_quiet_step (fail))
            refine wpQuiet_nil ?_
            rintro _ ⟨Z, rfl⟩
            have HBZ := Lib.hid (below_step HJ.out.1 Z.below)
            go_wp2_with fail
            go_ret
            exact ⟨rfl, HBZ.out⟩
          · have e1 : (sv.toList == tv.toList) = false := by rw [HEq.out]; exact decide_eq_false hst
            have HNx : Hid (s ∉ b.take (j + 1)) := Lib.hid (fun h => by
              rw [← List.take_append_getElem hjb, List.mem_append, List.mem_singleton] at h
              rcases h with h | h
              · exact HJ.out.2 h
              · exact hst (by rw [h, Ht.out]))
            go_wp2_with fail
            refine wp_region_grown (by kernel_rfl) (by kernel_rfl) ?_
            repeat (go_big_quiet_step (fail))
            refine wpQuiet_nil ?_
            rintro _ ⟨Z, rfl⟩
            have HBZ := Lib.hid (below_step HJ.out.1 Z.below)
            go_wp2_with fail
            go_round
            case rel => exact ⟨j + 1, by omega, by go_num, Lib.hid ⟨HBZ.out, HNx.out⟩⟩
            case measure => simp [intOf]; omega
        · obtain rfl : j = m := by omega
          have hd2 : decide ((j : Int) < j) = false := decide_eq_false (by omega)
          have HNx : Hid ((a.take (k + 1)).any (fun x => decide (x ∈ b)) = false) := Lib.hid (any_next hka HK.out.2 (by
            have := HJ.out.2
            rw [Hm.out, List.take_length] at this
            rw [← Hs.out]
            exact decide_eq_false this))
          go_wp2_with fail
          go_round
          case rel => exact ⟨k + 1, by omega, by go_num, Lib.hid ⟨HJ.out.1, HNx.out⟩⟩
          case measure => simp [intOf]; omega
    · obtain rfl : k = n := by omega
      have hd : decide ((k : Int) < k) = false := decide_eq_false (by omega)
      have HRf : Hid (R = false) := Lib.hid (by
        have := HK.out.2
        rw [Hn.out, List.take_length] at this
        rw [HR.out]; exact this)
      obtain rfl := HRf.out
      go_wp2_with fail
      go_ret
      exact ⟨rfl, HK.out.1⟩

set_option maxRecDepth 100000 in
set_option maxHeartbeats 8000000 in
theorem refDoubts_any (ao : Option Addr) (l : List Rp) (cap : Nat) (hl : l.length ≤ 1000000) (hs : ∀ r ∈ l, ∀ e ∈ r.opts, Shrt e) (W : World) (hi : IsL 2 ElRp W ao l) :
    Calls Try.prog 19 #[.slice ao l.length cap] W fun e w' => e = .returned (.int .i64 (doubts l : Nat)) ∧ Below W.heap.size W w' := by
  have HI := Lib.hid hi
  have HSh := Lib.hid hs
  clear hi hs
  obtain ⟨n, Hn⟩ : ∃ n, Hid (n = l.length) := ⟨_, Lib.hid rfl⟩
  obtain ⟨D, HD⟩ : ∃ n, Hid (n = doubts l) := ⟨_, Lib.hid rfl⟩
  rw [← Hn.out, ← HD.out]
  rw [← Hn.out] at hl
  go_enter Try.func19, Try.ntmps19
  go_wp2_with fail
  go_loopw [3, 4] (fun a i wr => ∃ k c : Nat, k ≤ n ∧ c ≤ k ∧ a = .int .i64 c ∧ i = .int .i64 k ∧ Hid (Below W.heap.size W wr ∧ c = doubts (l.take k))) (fun _ i _ => n - (intOf i).toNat)
  case atStart => exact ⟨0, 0, Nat.zero_le _, Nat.le_refl _, by go_num, by go_num, Lib.hid ⟨Below.refl _ _, rfl⟩⟩
  case round =>
    obtain ⟨k, c, hk, hck, rfl, rfl, HR⟩ := hrel
    by_cases hkn : k < n
    · have hd : decide ((k : Int) < n) = true := decide_eq_true (by omega)
      have hb0 : (0 : Int) ≤ k := by omega
      have hb1 : (k : Int) < n := by omega
      have hkl : k < l.length := by rw [← Hn.out]; exact hkn
      obtain ⟨bk, off, cs, rfl, hbk, hrg, oo, oc, rfl, hel, hoc1, hoc2⟩ := (HI.out.below stRp HR.out.1).at hkl
      obtain ⟨y, Hy⟩ : ∃ m, Hid (m = l[k]) := ⟨_, Lib.hid rfl⟩
      rw [← Hy.out] at hrg hel hoc1
      have c0 := hrg 0 _ rfl
      have c1 := hrg 1 _ rfl
      rw [Nat.add_zero] at c0
      have HCh := Lib.hid (refChoices_any y oo oc hoc1 hoc2 (HSh.out y (by rw [Hy.out]; exact List.getElem_mem hkl)) wr hel)
      obtain ⟨on, Hon⟩ : ∃ m, Hid (m = y.opts.length) := ⟨_, Lib.hid rfl⟩
      obtain ⟨yd, Hyd⟩ : ∃ m, Hid (m = y.doubt) := ⟨_, Lib.hid rfl⟩
      obtain ⟨z, Hz⟩ : ∃ m, Hid (m = choices y) := ⟨_, Lib.hid rfl⟩
      rw [← Hon.out] at c0 HCh
      rw [← Hyd.out] at c1 HCh
      rw [← Hz.out] at HCh
      have HNx : Hid (doubts (l.take (k + 1)) = c + if decide (z > 1) then 1 else 0) := Lib.hid (by
        unfold doubts
        rw [← List.take_append_getElem hkl, List.countP_append, List.countP_singleton]
        have := HR.out.2
        unfold doubts at this
        rw [← this, ← Hy.out, Hz.out]
        rfl)
      clear hrg hel hoc1
      by_cases hz : z > 1
      · have hdz : decide ((1 : Int) < z) = true := decide_eq_true hz
        rw [decide_eq_true hz] at HNx
        clear hz
        go_wp2_with fail
        refine HCh.out.mono ?_
        rintro e w1 ⟨rfl, hb⟩
        have HB1 := Lib.hid (below_step HR.out.1 hb)
        clear hb
        go_wp2_with fail
        go_round
        case rel => exact ⟨k + 1, c + 1, by omega, by omega, by go_num, by go_num, Lib.hid ⟨HB1.out, HNx.out.symm⟩⟩
        case measure => simp [intOf]; omega
      · have hdz : decide ((1 : Int) < z) = false := decide_eq_false hz
        rw [decide_eq_false hz] at HNx
        clear hz
        go_wp2_with fail
        refine HCh.out.mono ?_
        rintro e w1 ⟨rfl, hb⟩
        have HB1 := Lib.hid (below_step HR.out.1 hb)
        clear hb
        go_wp2_with fail
        go_round
        case rel => exact ⟨k + 1, c, by omega, by omega, by go_num, by go_num, Lib.hid ⟨HB1.out, HNx.out.symm⟩⟩
        case measure => simp [intOf]; omega
    · obtain rfl : k = n := by omega
      have hd : decide ((k : Int) < k) = false := decide_eq_false (by omega)
      have HcD : Hid (c = D) := Lib.hid (by rw [HR.out.2, Hn.out, List.take_length, HD.out])
      obtain rfl := HcD.out
      go_wp2_with fail
      go_ret
      exact ⟨rfl, HR.out.1⟩
end Go.Proofs.Ytolnpimnoajcaaa

/- The reference's Components. -/
namespace Go.Proofs.Ytolnpimnoajcaaa
open Go.RowKit Go.Sort
open Evt Lnk

theorem IsS.other {w w' : World} {v : Value} {ss : List (List UInt8)} {g : Nat} {T : TypeId} {cur : Array Value} (h : IsS w v ss) (hw : Whole w g T cur) (hc : ∀ (j : Nat) (s : ByteArray), cur[j]? ≠ some (.string s)) (hg : w.grownBy w' (some g)) : IsS w' v ss := by
  obtain ⟨ao, c, e, h1⟩ := h
  refine ⟨ao, c, e, fun j hj => ?_⟩
  obtain ⟨b, h2, h3, h4⟩ := h1 j hj
  have hbg : b ≠ g := fun e => by
    subst e
    rw [hw.cell] at h4
    exact hc _ _ h4
  exact ⟨b, h2, Nat.lt_of_lt_of_le h3 hg.size, hg.cell h4 (fun e => hbg (by injection e))⟩
/-- The rows that the walk fills: the least indices, and the names. -/
structure RSt (W : World) (lb nb n k : Nat) (N : Nat → List (List UInt8)) (L : Nat → Nat) (w : World) : Prop where
  low : Below W.heap.size W w
  lst : IsP w lb n L
  nms : ∃ cur : Array Value, Whole w nb 36 cur ∧ cur.size = n ∧ (∀ (j : Nat) (s : ByteArray), cur[j]? ≠ some (.string s)) ∧ ∀ i, i < k → ∃ v, cur[i]? = some v ∧ IsS w v (N i)
section
variable {W w w' : World} {lb nb n k : Nat} {N : Nat → List (List UInt8)} {L : Nat → Nat}
theorem RSt.below (h : RSt W lb nb n k N L w) (hb : Below w.heap.size w w') : RSt W lb nb n k N L w' := by
  obtain ⟨cur, h1, h2, h3, h4⟩ := h.nms
  exact ⟨below_step h.low hb, h.lst.below hb, cur, whole_belowM h1 hb, h2, h3, fun i hi => by obtain ⟨v, h5, h6⟩ := h4 i hi; exact ⟨v, h5, h6.below hb⟩⟩
theorem pC_noStr (n : Nat) (L : Nat → Nat) : ∀ (j : Nat) (s : ByteArray), (pC n L).toArray[j]? ≠ some (.string s) := fun j s h => by
  rw [List.getElem?_toArray, pC_get] at h
  split at h
  · injection h with h; cases h
  · cases h
theorem RSt.setL (h : RSt W lb nb n k N L w) (hl : W.heap.size ≤ lb) (hne : lb ≠ nb) (i x : Nat) : RSt W lb nb n k N (upd L i x) (w.setCell ⟨lb, i, none⟩ (.int .i64 x)) := by
  obtain ⟨cur, h1, h2, h3, h4⟩ := h.nms
  have hg := grown_setL (grown_refl w (some lb)) i (.int .i64 x)
  exact ⟨h.low.grown hg h.low.size (fun y e => by cases e; exact hl), h.lst.set i x, cur, whole_grownM h1 hg (fun e => hne (by injection e)), h2, h3, fun j hj => by
    obtain ⟨v, h5, h6⟩ := h4 j hj
    exact ⟨v, h5, h6.other h.lst (pC_noStr n L) hg⟩⟩
theorem RSt.setN (h : RSt W lb nb n k N L w) (hl : W.heap.size ≤ nb) (hne : lb ≠ nb) (hk : k < n) {ao : Option Addr} {m c : Nat} (hv : IsS w (.slice ao m c) (N k)) : RSt W lb nb n (k + 1) N L (w.setCell ⟨nb, k, none⟩ (.slice ao m c)) := by
  obtain ⟨cur, h1, h2, h3, h4⟩ := h.nms
  have hg := grown_setL (grown_refl w (some nb)) k (.slice ao m c)
  refine ⟨h.low.grown hg h.low.size (fun y e => by cases e; exact hl), h.lst.kept hg (fun e => hne (by injection e with e; exact e.symm)), _, Whole.set h1 k (.slice ao m c), by simp [h2], fun j s hj => ?_, fun j hj => ?_⟩
  · by_cases e : k = j
    · subst e
      rw [Array.getElem?_setIfInBounds_self] at hj
      split at hj
      · injection hj with hj; cases hj
      · cases hj
    · rw [Array.getElem?_setIfInBounds_ne e] at hj
      exact h3 j s hj
  · by_cases e : k = j
    · subst e
      exact ⟨_, by rw [Array.getElem?_setIfInBounds_self, if_pos (by omega)], hv.other h1 h3 hg⟩
    · obtain ⟨v, h5, h6⟩ := h4 j (by omega)
      exact ⟨v, by rw [Array.getElem?_setIfInBounds_ne e]; exact h5, h6.other h1 h3 hg⟩
theorem RSt.congr (h : RSt W lb nb n k N L w) {L' : Nat → Nat} (he : ∀ j, j < n → L j = L' j) : RSt W lb nb n k N L' w := ⟨h.low, h.lst.congr he, h.nms⟩
theorem RSt.name (h : RSt W lb nb n k N L w) {i : Nat} (hi : i < k) : ∃ v, w.cell? ⟨nb, i, none⟩ = some v ∧ IsS w v (N i) := by
  obtain ⟨cur, h1, h2, h3, h4⟩ := h.nms
  obtain ⟨v, h5, h6⟩ := h4 i hi
  exact ⟨v, by rw [h1.cell]; exact h5, h6⟩
theorem RSt.slot (h : RSt W lb nb n k N L w) {i : Nat} (hi : i < n) : ∃ v, w.cell? ⟨nb, i, none⟩ = some v ∧ w.frozen? ⟨nb, i, none⟩ = false := by
  obtain ⟨cur, h1, h2, h3, h4⟩ := h.nms
  refine ⟨cur[i]'(by omega), ?_, h1.frozen i⟩
  rw [h1.cell, Array.getElem?_eq_getElem (by omega)]
end
theorem info_strsL : (Try.prog.info? 36).map (fun i => (i.zero, i.size, i.bytes)) = some (some (.slice none 0 0), 1, 24) := by kernel_rfl
/-- The sets put together so far, in rows of the call's own. -/
structure OutS (W : World) (w : World) (ov : Value) (gs : List (List Nat)) : Prop where
  ex : ∃ us : List Value, w.ownsRow W.heap.size 29 1 ov gs.length us ∧ ∀ k (h : k < gs.length), ∃ u, us[k]? = some u ∧ w.ownsRow W.heap.size 3 1 u gs[k].length (natC gs[k])
theorem OutS.nil (W w : World) : OutS W w (.slice none 0 0) [] := ⟨[], World.ownsRow_nil _ _ _ _, fun k h => by simp at h⟩
theorem OutS.below {W w w' : World} {ov : Value} {gs : List (List Nat)} (h : OutS W w ov gs) (hb : Below w.heap.size w w') : OutS W w' ov gs := by
  obtain ⟨us, h1, h2⟩ := h.ex
  exact ⟨us, owns_belowM h1 hb, fun k hk => by obtain ⟨u, h3, h4⟩ := h2 k hk; exact ⟨u, h3, owns_belowM h4 hb⟩⟩
theorem OutS.isNN {W w : World} {ov : Value} {gs : List (List Nat)} (h : OutS W w ov gs) : IsNN w ov gs := by
  obtain ⟨us, h1, h2⟩ := h.ex
  obtain ⟨ao, c, rfl⟩ := owns_shapeM h1
  refine ⟨ao, c, rfl, fun j hj => ?_⟩
  obtain ⟨g, cp, e, _, ⟨cur, hw⟩, hc⟩ := owns_whole_put h1 hj
  obtain ⟨u, h3, h4⟩ := h2 j hj
  injection e with e _ _
  exact ⟨g, u, e, hw.lt, hc j u h3, .owns h4⟩
def mmP (lb n i k li lk R : Nat) : Nat → Value → World → Prop
  | 0, v, _ => v = .slice (some ⟨lb, 0, none⟩) n n
  | 1, v, _ => v = .int .i64 i
  | 2, v, _ => v = .pointer (some ⟨lb, i, none⟩)
  | 3, v, _ => v = .int .i64 li
  | 4, v, _ => v = .slice (some ⟨lb, 0, none⟩) n n
  | 5, v, _ => v = .int .i64 k
  | 6, v, _ => v = .pointer (some ⟨lb, k, none⟩)
  | 7, v, _ => v = .int .i64 lk
  | 8, v, _ => v = .int .i64 R
  | 9, v, _ => v = .int .i64 R
  | _, _, _ => True
theorem mmP_below {lb n i k li lk R : Nat} : ∀ j u w w', mmP lb n i k li lk R j u w → Below w.heap.size w w' → mmP lb n i k li lk R j u w'
  | 0, _, _, _, h, _ | 1, _, _, _, h, _ | 2, _, _, _, h, _ | 3, _, _, _, h, _ | 4, _, _, _, h, _ | 5, _, _, _, h, _ | 6, _, _, _, h, _ | 7, _, _, _, h, _ | 8, _, _, _, h, _ | 9, _, _, _, h, _ => h
  | _ + 10, _, _, _, _, _ => trivial
section
variable (d : Option Tmp) (t : TypeId) (pos : String) (af : Array Edge) (g : Option (Nat × Bool)) (A : Act) (w : World)
theorem run_indexInt (x y : Tmp) (b n c j : Nat) (hj : j < n) (hx : A.eval (.tmp x) = .slice (some ⟨b, 0, none⟩) n c) (hy : A.eval (.tmp y) = .int .i64 j) :
    (execOp A.eval ⟨d, .indexAddr 29 (.tmp x) (.tmp y), t, pos, af, g⟩).run Try.prog w = .ok (.value (.pointer (some ⟨b, j, none⟩))) w := by
  have h0 : (0 : Int) ≤ j := by omega
  have h1 : (j : Int) < n := by omega
  unfold execOp
  simp only [hx, hy]
  go_simp
theorem run_loadInt (x : Tmp) (p : Addr) (v : Value) (hx : A.eval (.tmp x) = .pointer (some p)) (hc : w.cell? p = some v) :
    (execOp A.eval ⟨d, .load 3 (.tmp x), t, pos, af, g⟩).run Try.prog w = .ok (.value v) w := by
  unfold execOp
  simp only [hx] <;> go_simp
theorem run_minNat (x y : Tmp) (a b : Nat) (hx : A.eval (.tmp x) = .int .i64 a) (hy : A.eval (.tmp y) = .int .i64 b) :
    (execOp A.eval ⟨d, .call { callee := .builtin .min, args := #[.tmp x, .tmp y], argTypes := #[3, 3] }, t, pos, af, g⟩).run Try.prog w = .ok (.value (.int .i64 ((min a b : Nat) : Int))) w := by
  have h := run_min_int2 (P := Try.prog) (w := w) #[3, 3] t .i64 .i64 a b
  have e : (if (b : Int) < a then (b : Int) else a) = ((min a b : Nat) : Int) := by split <;> omega
  rw [e] at h
  unfold execOp
  simp only [resolve, invoke, builtin, Sem.run_bind, Sem.run_pure, Result.andThen_ok, List.map_toArray, List.map_cons, List.map_nil, hx, hy, h]
theorem run_maxNat (x y : Tmp) (a b : Nat) (hx : A.eval (.tmp x) = .int .i64 a) (hy : A.eval (.tmp y) = .int .i64 b) :
    (execOp A.eval ⟨d, .call { callee := .builtin .max, args := #[.tmp x, .tmp y], argTypes := #[3, 3] }, t, pos, af, g⟩).run Try.prog w = .ok (.value (.int .i64 ((max a b : Nat) : Int))) w := by
  have h := run_max_int2 (P := Try.prog) (w := w) #[3, 3] t .i64 .i64 a b
  have e : (if (b : Int) > a then (b : Int) else a) = ((max a b : Nat) : Int) := by split <;> omega
  rw [e] at h
  unfold execOp
  simp only [resolve, invoke, builtin, Sem.run_bind, Sem.run_pure, Result.andThen_ok, List.map_toArray, List.map_cons, List.map_nil, hx, hy, h]
end
end Go.Proofs.Ytolnpimnoajcaaa

/- The reference's Components: the walk. -/
namespace Go.Proofs.Ytolnpimnoajcaaa
open Go.RowKit Go.Sort
open Evt Lnk

namespace Lnk
def closedN (n : Nat) (N : Nat → List (List UInt8)) (L : Nat → Nat) : Prop := ∀ i k, i < n → k < i → comB (N i) (N k) = true → L i = L k
structure Prog (n : Nat) (N : Nat → List (List UInt8)) (L0 L : Nat → Nat) (ch : Bool) (i k : Nat) : Prop where
  yes : ch = true → cntF n L < cntF n L0
  no : ch = false → L = L0 ∧ ∀ a b, (a < i ∧ b < a ∨ a = i ∧ b < k) → comB (N a) (N b) = true → L0 a = L0 b
theorem Prog.start (n : Nat) (N : Nat → List (List UInt8)) (L : Nat → Nat) : Prog n N L L false 0 0 := ⟨fun h => (by cases h), fun _ => ⟨rfl, fun a b h => (by omega)⟩⟩
theorem Prog.next {n i : Nat} {N : Nat → List (List UInt8)} {L0 L : Nat → Nat} {ch : Bool} (h : Prog n N L0 L ch i i) : Prog n N L0 L ch (i + 1) 0 := ⟨h.yes, fun hc => ⟨(h.no hc).1, fun a b hab => (h.no hc).2 a b (by omega)⟩⟩
theorem Prog.pair {n i k : Nat} {N : Nat → List (List UInt8)} {L0 L : Nat → Nat} {ch : Bool} (h : Prog n N L0 L ch i k) (hk : comB (N i) (N k) = true → L i = L k) : Prog n N L0 L ch i (k + 1) := ⟨h.yes, fun hc => ⟨(h.no hc).1, fun a b hab hcm => by
  by_cases e : a = i ∧ b = k
  · obtain ⟨rfl, rfl⟩ := e
    have := hk hcm
    rw [(h.no hc).1] at this
    exact this
  · exact (h.no hc).2 a b (by omega) hcm⟩⟩
theorem Prog.merged {n i k : Nat} {N : Nat → List (List UInt8)} {L0 L L' : Nat → Nat} {ch : Bool} (h : Prog n N L0 L ch i k) (hc : cntF n L' < cntF n L) : Prog n N L0 L' true i (k + 1) := ⟨fun _ => by
  cases ch with
  | true => exact Nat.lt_trans hc (h.yes rfl)
  | false => rw [(h.no rfl).1] at hc; exact hc, fun h => by cases h⟩
end Lnk
def cntW (w : World) (lb n : Nat) : Nat := (List.range n).countP fun i => match w.cell? ⟨lb, i, none⟩ with | some (.int _ z) => decide (z = (i : Int)) | _ => false
theorem cntW_of {w : World} {lb n : Nat} {L : Nat → Nat} (h : IsP w lb n L) : cntW w lb n = cntF n L := by
  unfold cntW cntF
  refine List.countP_congr fun i hi => ?_
  have hi : i < n := by simpa using hi
  rw [h.cell hi]
  simp
  omega
def boolN : Value → Nat
  | .bool true => 1
  | _ => 0
theorem made_sC (n : Nat) : madeCells #[Value.slice none 0 0] n = (List.replicate n (Value.slice none 0 0)).toArray := by
  apply Array.ext'
  apply List.ext_getElem?
  intro j
  by_cases hj : j < n <;> simp [madeCells, hj, Nat.mod_one]
theorem news_oneL (w : World) (t : TypeId) (x : Value) : ∀ j u, [x][j]? = some u → (w.alloc (.cells #[x] t)).cell? ((⟨w.heap.size, 0, none⟩ : Addr).add j) = some u := news_one w t x
set_option maxRecDepth 100000 in
set_option maxHeartbeats 32000000 in
theorem refComp_any (ao : Option Addr) (l : List Rp) (cap : Nat) (hl : l.length ≤ 1000000) (hs : ∀ r ∈ l, ∀ e ∈ r.opts, Shrt e) (W : World) (hi : IsL 2 ElRp W ao l) :
    Calls Try.prog 14 #[.slice ao l.length cap] W fun e w' => ∃ sv r, e = .returned sv ∧ (∀ a b, a < l.length → b < l.length → (r a = r b ↔ Conn l.length (namesAt l) a b)) ∧ IsNN w' sv (groups r l.length) ∧ Below W.heap.size W w' := by
  have HI := Lib.hid hi
  have HSh := Lib.hid hs
  clear hi hs
  obtain ⟨N, HN⟩ : ∃ N, Hid (N = namesAt l) := ⟨_, Lib.hid rfl⟩
  obtain ⟨n, Hn⟩ : ∃ n, Hid (n = l.length) := ⟨_, Lib.hid rfl⟩
  have HPost : Hid (∀ sv r w', (∀ a b, a < n → b < n → (r a = r b ↔ Conn n N a b)) → IsNN w' sv (groups r n) → Below W.heap.size W w' → ∃ sv' r', Ending.returned sv = .returned sv' ∧ (∀ a b, a < l.length → b < l.length → (r' a = r' b ↔ Conn l.length (namesAt l) a b)) ∧ IsNN w' sv' (groups r' l.length) ∧ Below W.heap.size W w') := Lib.hid (fun sv r w' h1 h2 h3 => ⟨sv, r, rfl, by rw [← Hn.out, ← HN.out]; exact h1, by rw [← Hn.out]; exact h2, h3⟩)
  rw [← Hn.out] at HPost ⊢
  have hNl : ∀ i, i < n → (N i).length ≤ 8 := fun i hi => by
    rw [HN.out, namesAt_get (by rw [← Hn.out]; exact hi)]; exact namesR_len _
  have HNl := Lib.hid hNl
  clear hNl
  rw [← Hn.out] at hl
  obtain ⟨lb, Hlb⟩ : ∃ g, Hid (g = W.heap.size) := ⟨_, Lib.hid rfl⟩
  obtain ⟨V, HV⟩ : ∃ w, Hid (w = W.alloc (.cells (pC n fun _ => 0).toArray 3)) := ⟨_, Lib.hid rfl⟩
  obtain ⟨nb, Hnb⟩ : ∃ g, Hid (g = V.heap.size) := ⟨_, Lib.hid rfl⟩
  obtain ⟨U, HU⟩ : ∃ w, Hid (w = V.alloc (.cells (List.replicate n (Value.slice none 0 0)).toArray 36)) := ⟨_, Lib.hid rfl⟩
  have HBV : Hid (Below W.heap.size W V) := Lib.hid (by rw [HV.out]; exact (Below.refl _ _).alloc (Nat.le_refl _) _)
  have HBU : Hid (Below V.heap.size V U) := Lib.hid (by rw [HU.out]; exact (Below.refl _ _).alloc (Nat.le_refl _) _)
  have hlw : W.heap.size ≤ lb := by rw [Hlb.out]; exact Nat.le_refl _
  have hnb : nb = lb + 1 := by rw [Hnb.out, HV.out, size_alloc, Hlb.out]
  have hnw : W.heap.size ≤ nb := by omega
  have hne : lb ≠ nb := by omega
  have HR0 : Hid (RSt W lb nb n 0 N (fun _ => 0) U) := Lib.hid (by
    have h1 : IsP V lb n fun _ => 0 := by rw [HV.out, Hlb.out]; exact Whole.new _ _ _
    refine ⟨below_step HBV.out HBU.out, h1.below HBU.out, _, by rw [HU.out, Hnb.out]; exact Whole.new _ _ _, by simp, fun j s h => ?_, fun i hi => by omega⟩
    rw [List.getElem?_toArray, List.getElem?_replicate] at h
    split at h
    · injection h with h; cases h
    · cases h)
  have hmk := run_make_row' (P := Try.prog) 29 3 (.int .i64 0) 8 Try.underlying29 info_intL rfl .i64 .i64 n (by omega) (by omega) W
  rw [made_pC, ← HV.out, ← Hlb.out] at hmk
  have hmk2 := run_make_row' (P := Try.prog) 60 36 (.slice none 0 0) 24 Try.underlying60 info_strsL rfl .i64 .i64 n (by omega) (by omega) V
  rw [made_sC, ← HU.out, ← Hnb.out] at hmk2
  clear hnb
  go_enter Try.func14, Try.ntmps14
  go_wp2_with fail
  clear hmk hmk2
  go_loopw [5] (fun i wr => ∃ k : Nat, k ≤ n ∧ i = .int .i64 k ∧ Hid (RSt W lb nb n k N (fun j => if j < k then j else 0) wr)) (fun i _ => n - (intOf i).toNat)
  case atStart => exact ⟨0, Nat.zero_le _, by go_num, Lib.hid (HR0.out.congr (fun j _ => by simp))⟩
  case round =>
    obtain ⟨k, hk, rfl, HR⟩ := hrel
    by_cases hkn : k < n
    · have hd : decide ((k : Int) < n) = true := decide_eq_true (by omega)
      have hb0 : (0 : Int) ≤ k := by omega
      have hb1 : (k : Int) < n := by omega
      have hkl : k < l.length := by rw [← Hn.out]; exact hkn
      have cc := HR.out.lst.cell hkn
      have fz := HR.out.lst.frozen k
      obtain ⟨w1, Hw1⟩ : ∃ w, Hid (w = wr.setCell ⟨lb, k, none⟩ (.int .i64 k)) := ⟨_, Lib.hid rfl⟩
      have HR1 : Hid (RSt W lb nb n k N (fun j => if j < k + 1 then j else 0) w1) := Lib.hid (by
        rw [Hw1.out]
        refine (HR.out.setL hlw hne k k).congr (fun j _ => ?_)
        unfold upd
        (try dsimp only)
        by_cases e : j = k
        · rw [if_pos e, if_pos (by omega), e]
        · rw [if_neg e]
          by_cases h : j < k
          · rw [if_pos h, if_pos (by omega)]
          · rw [if_neg h, if_neg (by omega)])
      obtain ⟨bk, off, cs, rfl, hbk, hrg, oo, oc, rfl, hel, hoc1, hoc2⟩ := (HI.out.below stRp HR1.out.low).at hkl
      obtain ⟨y, Hy⟩ : ∃ m, Hid (m = l[k]) := ⟨_, Lib.hid rfl⟩
      rw [← Hy.out] at hrg hel hoc1
      have c0 := hrg 0 _ rfl
      have c1 := hrg 1 _ rfl
      rw [Nat.add_zero] at c0
      have HNm := Lib.hid (refNames_any y oo oc hoc1 hoc2 (HSh.out y (by rw [Hy.out]; exact List.getElem_mem hkl)) w1 hel)
      have HNk : Hid (N k = namesR y) := Lib.hid (by rw [HN.out, namesAt_get hkl, Hy.out])
      rw [← HNk.out] at HNm
      obtain ⟨on, Hon⟩ : ∃ m, Hid (m = y.opts.length) := ⟨_, Lib.hid rfl⟩
      obtain ⟨yd, Hyd⟩ : ∃ m, Hid (m = y.doubt) := ⟨_, Lib.hid rfl⟩
      rw [← Hon.out] at c0 HNm
      rw [← Hyd.out] at c1 HNm
      clear hrg hel hoc1
      go_upto_region 7 with fail
      rw [← Hw1.out]
      go_wp2_with fail
      refine HNm.out.mono ?_
      rintro e w2 ⟨nv, rfl, hS, hb⟩
      have HR2 := Lib.hid (HR1.out.below hb)
      have HS2 := Lib.hid hS
      obtain ⟨no, nc, rfl, -⟩ := hS
      obtain ⟨m, Hm⟩ : ∃ m, Hid (m = (N k).length) := ⟨_, Lib.hid rfl⟩
      rw [← Hm.out] at HS2 ⊢
      obtain ⟨u, cn, fn⟩ := HR2.out.slot hkn
      have HR3 := Lib.hid (HR2.out.setN hnw hne hkn HS2.out)
      clear hb c0 c1 cc fz
      go_wp2_with fail
      go_round
      case rel => exact ⟨k + 1, by omega, by go_num, HR3⟩
      case measure => simp [intOf]; omega
    · obtain rfl : k = n := by omega
      have hd : decide ((k : Int) < k) = false := decide_eq_false (by omega)
      have HR1 : Hid (RSt W lb nb k k N (fun j => j) wr) := Lib.hid (HR.out.congr (fun j hj => by rw [if_pos hj]))
      have HS1 := Lib.hid (Lst.start k N)
      obtain ⟨wo, rfl⟩ : ∃ y, y = wr := ⟨_, rfl⟩
      obtain ⟨n, rfl⟩ : ∃ y, y = k := ⟨_, rfl⟩
      go_wp2_with fail
      go_loopw [6] (fun cv wr => ∃ (ch : Bool) (L : Nat → Nat), cv = .bool ch ∧ Hid (RSt W lb nb n n N L wr ∧ Lst n N L ∧ (ch = false → closedN n N L))) (fun cv wr => cntW wr lb n + boolN cv)
      case atStart => exact ⟨true, _, rfl, Lib.hid ⟨HR1.out, HS1.out, fun h => by cases h⟩⟩
      case round =>
        obtain ⟨ch, L, rfl, HC⟩ := hrel
        cases ch with
        | true =>
          obtain ⟨wc, rfl⟩ : ∃ y, y = wr := ⟨_, rfl⟩
          have HCw : Hid (cntW wc lb n = cntF n L) := Lib.hid (cntW_of HC.out.1.lst)
          go_wp2_with fail
          go_loopw [6, 7] (fun cv iv ws => ∃ (ch : Bool) (i : Nat) (L' : Nat → Nat), i ≤ n ∧ cv = .bool ch ∧ iv = .int .i64 i ∧ Hid (RSt W lb nb n n N L' ws ∧ Lst n N L' ∧ Prog n N L L' ch i 0)) (fun _ iv _ => n - (intOf iv).toNat)
          case atStart => exact ⟨false, 0, L, Nat.zero_le _, rfl, by go_num, Lib.hid ⟨HC.out.1, HC.out.2.1, Prog.start n N L⟩⟩
          case round =>
            obtain ⟨ch, i, L', hin', rfl, rfl, HD⟩ := hrel
            by_cases hin : i < n
            · have hd2 : decide ((i : Int) < n) = true := decide_eq_true (by omega)
              have hi0 : (0 : Int) ≤ i := by omega
              have hi1 : (i : Int) < n := by omega
              obtain ⟨wd, rfl⟩ : ∃ y, y = wr := ⟨_, rfl⟩
              go_wp2_with fail
              go_loopw [6, 8] (fun cv kv ws => ∃ (ch : Bool) (k : Nat) (L' : Nat → Nat), k ≤ i ∧ cv = .bool ch ∧ kv = .int .i64 k ∧ Hid (RSt W lb nb n n N L' ws ∧ Lst n N L' ∧ Prog n N L L' ch i k)) (fun _ kv _ => i - (intOf kv).toNat)
              case atStart => exact ⟨ch, 0, L', Nat.zero_le _, rfl, by go_num, HD⟩
              case round =>
                obtain ⟨ch, k, L', hki', rfl, rfl, HK⟩ := hrel
                by_cases hki : k < i
                · have hd3 : decide ((k : Int) < i) = true := decide_eq_true (by omega)
                  have hk0 : (0 : Int) ≤ k := by omega
                  have hk1 : (k : Int) < n := by omega
                  have hkn : k < n := by omega
                  obtain ⟨li, Hli⟩ : ∃ y, Hid (y = L' i) := ⟨_, Lib.hid rfl⟩
                  obtain ⟨lk, Hlk⟩ : ∃ y, Hid (y = L' k) := ⟨_, Lib.hid rfl⟩
                  obtain ⟨vi, cvi, hvi⟩ := HK.out.1.name hin
                  obtain ⟨vk, cvk, hvk⟩ := HK.out.1.name hkn
                  obtain ⟨R, HRr⟩ : ∃ y, Hid (y = comB (N i) (N k)) := ⟨_, Lib.hid rfl⟩
                  have HCl : Hid (∀ Z : Grown wr, Calls Try.prog 30 #[vi, vk] Z.w fun e w'' => e = .returned (.bool R) ∧ ∃ y : Grown wr, w'' = y.w) := Lib.hid (fun Z => by
                    rw [HRr.out]
                    exact grown_of (common_any (N i) (N k) (by have := HNl.out i hin; omega) (by have := HNl.out k hkn; omega) Z.w vi vk (hvi.below Z.below) (hvk.below Z.below)))
                  obtain ⟨io, ic, rfl, -⟩ := hvi
                  obtain ⟨ko, kc, rfl, -⟩ := hvk
                  have hnbl : nb < wr.heap.size := lt_of_cell cvi
                  have ga : ∀ Z : Grown wr, Z.w.cell? ⟨lb, i, none⟩ = some (.int .i64 (li : Nat)) := fun Z => by rw [Hli.out]; exact (HK.out.1.lst.below Z.below).cell hin
                  have gb : ∀ Z : Grown wr, Z.w.cell? ⟨lb, k, none⟩ = some (.int .i64 (lk : Nat)) := fun Z => by rw [Hlk.out]; exact (HK.out.1.lst.below Z.below).cell hkn
                  have gc : ∀ Z : Grown wr, Z.w.cell? ⟨nb, i, none⟩ = some (.slice io (N i).length ic) := fun Z => (cellB Z.below hnbl).trans cvi
                  have gd : ∀ Z : Grown wr, Z.w.cell? ⟨nb, k, none⟩ = some (.slice ko (N k).length kc) := fun Z => (cellB Z.below hnbl).trans cvk
                  clear cvi cvk
                  by_cases hlk : li = lk
                  · have e1 : ((li : Int) != lk) = false := by simp; omega
                    have HEq : Hid (comB (N i) (N k) = true → L' i = L' k) := Lib.hid (fun _ => by rw [← Hli.out, ← Hlk.out]; exact hlk)
                    clear hlk
                    have HPg : Hid (Prog n N L L' ch i (k + 1)) := Lib.hid (HK.out.2.2.pair HEq.out)
                    go_wp2_with fail
                    refine wp_region_grown (by kernel_rfl) (by kernel_rfl) ?_
                    repeat (go_big_quiet_step (exact HCl.out _))
                    refine wpQuiet_nil ?_
                    rintro _ ⟨Z, rfl⟩
                    have HRZ := Lib.hid (HK.out.1.below Z.below)
                    go_wp2_with fail
                    go_round
                    case rel => exact ⟨ch, k + 1, L', by omega, rfl, by go_num, Lib.hid ⟨HRZ.out, HK.out.2.1, HPg.out⟩⟩
                    case measure => simp [intOf]; omega
                  · have e1 : ((li : Int) != lk) = true := by simp; omega
                    cases R with
                    | false =>
                      have HEq : Hid (comB (N i) (N k) = true → L' i = L' k) := Lib.hid (fun h => by rw [← HRr.out] at h; cases h)
                      have HPg : Hid (Prog n N L L' ch i (k + 1)) := Lib.hid (HK.out.2.2.pair HEq.out)
                      go_wp2_with fail
                      refine wp_region_grown (by kernel_rfl) (by kernel_rfl) ?_
                      repeat (go_big_quiet_step (exact HCl.out _))
                      refine wpQuiet_nil ?_
                      rintro _ ⟨Z, rfl⟩
                      have HRZ := Lib.hid (HK.out.1.below Z.below)
                      go_wp2_with fail
                      go_round
                      case rel => exact ⟨ch, k + 1, L', by omega, rfl, by go_num, Lib.hid ⟨HRZ.out, HK.out.2.1, HPg.out⟩⟩
                      case measure => simp [intOf]; omega
                    | true =>
                      go_wp2_with fail
                      refine wp_region_grown (by kernel_rfl) (by kernel_rfl) ?_
                      repeat (go_big_quiet_step (exact HCl.out _))
                      refine wpQuiet_nil ?_
                      rintro _ ⟨Z, rfl⟩
                      have HRw := Lib.hid (HK.out.1.below Z.below)
                      clear ga gb gc gd
                      go_upto_region 18 with fail
                      obtain ⟨mm, Hmm⟩ : ∃ y, Hid (y = min li lk) := ⟨_, Lib.hid rfl⟩
                      apply wp_region_monoL 140 (mmP lb n i k li lk mm) mmP_below (by kernel_rfl) (by kernel_rfl) rfl
                      · intro q o ho w A' hlow hsee haway
                        have s3 : A'.eval (.tmp 3) = .slice (some ⟨lb, 0, none⟩) n n := (haway 3 (by kernel_rfl)).trans rfl
                        have s7 : A'.eval (.tmp 7) = .int .i64 i := (haway 7 (by kernel_rfl)).trans rfl
                        have s8 : A'.eval (.tmp 8) = .int .i64 k := (haway 8 (by kernel_rfl)).trans rfl
                        have hR := (HRw.out.below hlow).lst
                        have ci : w.cell? ⟨lb, i, none⟩ = some (.int .i64 li) := by rw [Hli.out]; exact hR.cell hin
                        have ck : w.cell? ⟨lb, k, none⟩ = some (.int .i64 lk) := by rw [Hlk.out]; exact hR.cell hkn
                        have hq : q < 10 := by have := (List.getElem?_eq_some_iff.1 ho).1; simpa using this
                        have hq : q = 0 ∨ q = 1 ∨ q = 2 ∨ q = 3 ∨ q = 4 ∨ q = 5 ∨ q = 6 ∨ q = 7 ∨ q = 8 ∨ q = 9 := by omega
                        rcases hq with rfl | rfl | rfl | rfl | rfl | rfl | rfl | rfl | rfl | rfl
                        all_goals
                          simp only [List.getElem?_cons_succ, List.getElem?_cons_zero, Option.some.injEq] at ho
                          subst ho
                        · exact wp_of_runL (run_moveL _ _ _ _ _ _ _ 3 _ s3) ⟨_, rfl, Below.refl _ _, rfl⟩
                        · exact wp_of_runL (run_moveL _ _ _ _ _ _ _ 7 _ s7) ⟨_, rfl, Below.refl _ _, rfl⟩
                        · have q0 : A'.eval (.tmp 72) = .slice (some ⟨lb, 0, none⟩) n n := hsee 72 (by decide) 0 rfl
                          have q1 : A'.eval (.tmp 73) = .int .i64 i := hsee 73 (by decide) 1 rfl
                          exact wp_of_runL (run_indexInt _ _ _ _ _ _ _ 72 73 lb n n i hin q0 q1) ⟨_, rfl, Below.refl _ _, rfl⟩
                        · have q2 : A'.eval (.tmp 74) = .pointer (some ⟨lb, i, none⟩) := hsee 74 (by decide) 2 rfl
                          exact wp_of_runL (run_loadInt _ _ _ _ _ _ _ 74 _ _ q2 ci) ⟨_, rfl, Below.refl _ _, rfl⟩
                        · exact wp_of_runL (run_moveL _ _ _ _ _ _ _ 3 _ s3) ⟨_, rfl, Below.refl _ _, rfl⟩
                        · exact wp_of_runL (run_moveL _ _ _ _ _ _ _ 8 _ s8) ⟨_, rfl, Below.refl _ _, rfl⟩
                        · have q4 : A'.eval (.tmp 76) = .slice (some ⟨lb, 0, none⟩) n n := hsee 76 (by decide) 4 rfl
                          have q5 : A'.eval (.tmp 77) = .int .i64 k := hsee 77 (by decide) 5 rfl
                          exact wp_of_runL (run_indexInt _ _ _ _ _ _ _ 76 77 lb n n k hkn q4 q5) ⟨_, rfl, Below.refl _ _, rfl⟩
                        · have q6 : A'.eval (.tmp 78) = .pointer (some ⟨lb, k, none⟩) := hsee 78 (by decide) 6 rfl
                          exact wp_of_runL (run_loadInt _ _ _ _ _ _ _ 78 _ _ q6 ck) ⟨_, rfl, Below.refl _ _, rfl⟩
                        · have q3 : A'.eval (.tmp 75) = .int .i64 li := hsee 75 (by decide) 3 rfl
                          have q7 : A'.eval (.tmp 79) = .int .i64 lk := hsee 79 (by decide) 7 rfl
                          exact wp_of_runL (run_minNat _ _ _ _ _ _ _ 75 79 li lk q3 q7) ⟨_, rfl, Below.refl _ _, by rw [← Hmm.out]; rfl⟩
                        · have q8 : A'.eval (.tmp 80) = .int .i64 mm := hsee 80 (by decide) 8 rfl
                          exact wp_of_runL (run_assignL _ _ _ _ _ _ _ 80 _ q8) ⟨_, rfl, Below.refl _ _, rfl⟩
                      intro e wm hlow hall
                      obtain ⟨v0, e0, -⟩ := hall 0 (by decide)
                      obtain ⟨v1, e1, -⟩ := hall 1 (by decide)
                      obtain ⟨v2, e2, -⟩ := hall 2 (by decide)
                      obtain ⟨v3, e3, -⟩ := hall 3 (by decide)
                      obtain ⟨v4, e4, -⟩ := hall 4 (by decide)
                      obtain ⟨v5, e5, -⟩ := hall 5 (by decide)
                      obtain ⟨v6, e6, -⟩ := hall 6 (by decide)
                      obtain ⟨v7, e7, -⟩ := hall 7 (by decide)
                      obtain ⟨v8, e8, -⟩ := hall 8 (by decide)
                      obtain ⟨v9, e9, h9⟩ := hall 9 (by decide)
                      have h9' : v9 = .int .i64 mm := h9
                      subst h9'
                      have HRn := Lib.hid (HRw.out.below hlow)
                      simp only [List.length_cons, List.length_nil, Nat.reduceAdd, fillTo, e0, e1, e2, e3, e4, e5, e6, e7, e8, e9, dstOf]
                      clear e0 e1 e2 e3 e4 e5 e6 e7 e8 e9 hlow hall h9
                      go_simp
                      obtain ⟨low, Hlow⟩ : ∃ y, Hid (y = mm) := ⟨_, Lib.hid rfl⟩
                      have HLw : Hid (low = min li lk) := Lib.hid (by rw [Hlow.out, Hmm.out])
                      rw [← Hlow.out]
                      clear Hlow Hmm
                      clear HRw
                      have HRw := HRn
                      clear HRn
                      go_upto_region 19 with fail
                      obtain ⟨mm, Hmm⟩ : ∃ y, Hid (y = max li lk) := ⟨_, Lib.hid rfl⟩
                      apply wp_region_monoL 140 (mmP lb n i k li lk mm) mmP_below (by kernel_rfl) (by kernel_rfl) rfl
                      · intro q o ho w A' hlow hsee haway
                        have s3 : A'.eval (.tmp 3) = .slice (some ⟨lb, 0, none⟩) n n := (haway 3 (by kernel_rfl)).trans rfl
                        have s7 : A'.eval (.tmp 7) = .int .i64 i := (haway 7 (by kernel_rfl)).trans rfl
                        have s8 : A'.eval (.tmp 8) = .int .i64 k := (haway 8 (by kernel_rfl)).trans rfl
                        have hR := (HRw.out.below hlow).lst
                        have ci : w.cell? ⟨lb, i, none⟩ = some (.int .i64 li) := by rw [Hli.out]; exact hR.cell hin
                        have ck : w.cell? ⟨lb, k, none⟩ = some (.int .i64 lk) := by rw [Hlk.out]; exact hR.cell hkn
                        have hq : q < 10 := by have := (List.getElem?_eq_some_iff.1 ho).1; simpa using this
                        have hq : q = 0 ∨ q = 1 ∨ q = 2 ∨ q = 3 ∨ q = 4 ∨ q = 5 ∨ q = 6 ∨ q = 7 ∨ q = 8 ∨ q = 9 := by omega
                        rcases hq with rfl | rfl | rfl | rfl | rfl | rfl | rfl | rfl | rfl | rfl
                        all_goals
                          simp only [List.getElem?_cons_succ, List.getElem?_cons_zero, Option.some.injEq] at ho
                          subst ho
                        · exact wp_of_runL (run_moveL _ _ _ _ _ _ _ 3 _ s3) ⟨_, rfl, Below.refl _ _, rfl⟩
                        · exact wp_of_runL (run_moveL _ _ _ _ _ _ _ 7 _ s7) ⟨_, rfl, Below.refl _ _, rfl⟩
                        · have q0 : A'.eval (.tmp 81) = .slice (some ⟨lb, 0, none⟩) n n := hsee 81 (by decide) 0 rfl
                          have q1 : A'.eval (.tmp 82) = .int .i64 i := hsee 82 (by decide) 1 rfl
                          exact wp_of_runL (run_indexInt _ _ _ _ _ _ _ 81 82 lb n n i hin q0 q1) ⟨_, rfl, Below.refl _ _, rfl⟩
                        · have q2 : A'.eval (.tmp 83) = .pointer (some ⟨lb, i, none⟩) := hsee 83 (by decide) 2 rfl
                          exact wp_of_runL (run_loadInt _ _ _ _ _ _ _ 83 _ _ q2 ci) ⟨_, rfl, Below.refl _ _, rfl⟩
                        · exact wp_of_runL (run_moveL _ _ _ _ _ _ _ 3 _ s3) ⟨_, rfl, Below.refl _ _, rfl⟩
                        · exact wp_of_runL (run_moveL _ _ _ _ _ _ _ 8 _ s8) ⟨_, rfl, Below.refl _ _, rfl⟩
                        · have q4 : A'.eval (.tmp 85) = .slice (some ⟨lb, 0, none⟩) n n := hsee 85 (by decide) 4 rfl
                          have q5 : A'.eval (.tmp 86) = .int .i64 k := hsee 86 (by decide) 5 rfl
                          exact wp_of_runL (run_indexInt _ _ _ _ _ _ _ 85 86 lb n n k hkn q4 q5) ⟨_, rfl, Below.refl _ _, rfl⟩
                        · have q6 : A'.eval (.tmp 87) = .pointer (some ⟨lb, k, none⟩) := hsee 87 (by decide) 6 rfl
                          exact wp_of_runL (run_loadInt _ _ _ _ _ _ _ 87 _ _ q6 ck) ⟨_, rfl, Below.refl _ _, rfl⟩
                        · have q3 : A'.eval (.tmp 84) = .int .i64 li := hsee 84 (by decide) 3 rfl
                          have q7 : A'.eval (.tmp 88) = .int .i64 lk := hsee 88 (by decide) 7 rfl
                          exact wp_of_runL (run_maxNat _ _ _ _ _ _ _ 84 88 li lk q3 q7) ⟨_, rfl, Below.refl _ _, by rw [← Hmm.out]; rfl⟩
                        · have q8 : A'.eval (.tmp 89) = .int .i64 mm := hsee 89 (by decide) 8 rfl
                          exact wp_of_runL (run_assignL _ _ _ _ _ _ _ 89 _ q8) ⟨_, rfl, Below.refl _ _, rfl⟩
                      intro e wm hlow hall
                      obtain ⟨v0, e0, -⟩ := hall 0 (by decide)
                      obtain ⟨v1, e1, -⟩ := hall 1 (by decide)
                      obtain ⟨v2, e2, -⟩ := hall 2 (by decide)
                      obtain ⟨v3, e3, -⟩ := hall 3 (by decide)
                      obtain ⟨v4, e4, -⟩ := hall 4 (by decide)
                      obtain ⟨v5, e5, -⟩ := hall 5 (by decide)
                      obtain ⟨v6, e6, -⟩ := hall 6 (by decide)
                      obtain ⟨v7, e7, -⟩ := hall 7 (by decide)
                      obtain ⟨v8, e8, -⟩ := hall 8 (by decide)
                      obtain ⟨v9, e9, h9⟩ := hall 9 (by decide)
                      have h9' : v9 = .int .i64 mm := h9
                      subst h9'
                      have HRn := Lib.hid (HRw.out.below hlow)
                      simp only [List.length_cons, List.length_nil, Nat.reduceAdd, fillTo, e0, e1, e2, e3, e4, e5, e6, e7, e8, e9, dstOf]
                      clear e0 e1 e2 e3 e4 e5 e6 e7 e8 e9 hlow hall h9
                      go_simp
                      obtain ⟨high, Hhigh⟩ : ∃ y, Hid (y = mm) := ⟨_, Lib.hid rfl⟩
                      have HHw : Hid (high = max li lk) := Lib.hid (by rw [Hhigh.out, Hmm.out])
                      rw [← Hhigh.out]
                      clear Hhigh Hmm
                      clear HRw
                      have HRw := HRn
                      clear HRn
                      have hll : low < high := by rw [HLw.out, HHw.out]; omega
                      have HVv : Hid ((L' i = low ∧ L' k = high) ∨ (L' i = high ∧ L' k = low)) := Lib.hid (by
                        rw [← Hli.out, ← Hlk.out, HLw.out, HHw.out]; omega)
                      obtain ⟨hls, hcn⟩ := HK.out.2.1.merge hin hkn hll HVv.out HRr.out.symm
                      have HLs := Lib.hid hls
                      have HPg := Lib.hid (HK.out.2.2.merged hcn)
                      clear hls hcn e1 hlk
                      obtain ⟨wf, rfl⟩ : ∃ y, y = wr := ⟨_, rfl⟩
                      go_wp2_with fail
                      go_loopw [11] (fun jv ws => ∃ j : Nat, j ≤ n ∧ jv = .int .i64 j ∧ Hid (RSt W lb nb n n N (fun x => if x < j then mrg L' low high x else L' x) ws)) (fun jv _ => n - (intOf jv).toNat)
                      case atStart => exact ⟨0, Nat.zero_le _, by go_num, Lib.hid (HRw.out.congr (fun j _ => by simp))⟩
                      case round =>
                        obtain ⟨j, hj, rfl, HJ⟩ := hrel
                        by_cases hjn : j < n
                        · have hd4 : decide ((j : Int) < n) = true := decide_eq_true (by omega)
                          have hj0 : (0 : Int) ≤ j := by omega
                          have hj1 : (j : Int) < n := by omega
                          obtain ⟨lj, Hlj⟩ : ∃ y, Hid (y = L' j) := ⟨_, Lib.hid rfl⟩
                          have cj : wr.cell? ⟨lb, j, none⟩ = some (.int .i64 (lj : Nat)) := by
                            have := HJ.out.lst.cell hjn
                            (try dsimp only at this)
                            rw [if_neg (by omega), ← Hlj.out] at this
                            exact this
                          have fj := HJ.out.lst.frozen j
                          by_cases hjh : lj = high
                          · have e4 : ((lj : Int) == high) = true := by simp; omega
                            have HRj : Hid (RSt W lb nb n n N (fun x => if x < j + 1 then mrg L' low high x else L' x) (wr.setCell ⟨lb, j, none⟩ (.int .i64 low))) := Lib.hid ((HJ.out.setL hlw hne j low).congr (fun x _ => by
                              rw [mrg_upto]
                              unfold upd
                              (try dsimp only)
                              by_cases e : x = j
                              · rw [if_pos e, if_pos e]; unfold mrg; rw [← Hlj.out, if_pos hjh]
                              · rw [if_neg e, if_neg e]))
                            clear hjh
                            go_wp2_with fail
                            go_round
                            case rel => exact ⟨j + 1, by omega, by go_num, HRj⟩
                            case measure => simp [intOf]; omega
                          · have e4 : ((lj : Int) == high) = false := by simp; omega
                            have HRj : Hid (RSt W lb nb n n N (fun x => if x < j + 1 then mrg L' low high x else L' x) wr) := Lib.hid (HJ.out.congr (fun x _ => by
                              rw [mrg_upto]
                              (try dsimp only)
                              by_cases e : x = j
                              · rw [if_pos e, if_neg (by omega), e]; unfold mrg; rw [← Hlj.out, if_neg hjh]
                              · rw [if_neg e]))
                            clear hjh
                            go_wp2_with fail
                            go_round
                            case rel => exact ⟨j + 1, by omega, by go_num, HRj⟩
                            case measure => simp [intOf]; omega
                        · obtain rfl : j = n := by omega
                          have hd4 : decide ((j : Int) < j) = false := decide_eq_false (by omega)
                          have HRj : Hid (RSt W lb nb j j N (mrg L' low high) wr) := Lib.hid (HJ.out.congr (fun x hx => by rw [if_pos hx]))
                          go_wp2_with fail
                          go_round
                          case rel => exact ⟨true, k + 1, _, by omega, rfl, by go_num, Lib.hid ⟨HRj.out, HLs.out, HPg.out⟩⟩
                          case measure => simp [intOf]; omega
                · obtain rfl : k = i := by omega
                  have hd3 : decide ((k : Int) < k) = false := decide_eq_false (by omega)
                  have HPg := Lib.hid HK.out.2.2.next
                  go_wp2_with fail
                  go_round
                  case rel => exact ⟨ch, k + 1, L', by omega, rfl, by go_num, Lib.hid ⟨HK.out.1, HK.out.2.1, HPg.out⟩⟩
                  case measure => simp [intOf]; omega
            · obtain rfl : i = n := by omega
              have hd2 : decide ((i : Int) < i) = false := decide_eq_false (by omega)
              have HMs : Hid (cntW wr lb i + boolN (.bool ch) < cntW wc lb i + boolN (.bool true)) := Lib.hid (by
                rw [HCw.out, cntW_of HD.out.1.lst]
                cases ch with
                | true => have := HD.out.2.2.yes rfl; simp [boolN]; exact this
                | false => rw [(HD.out.2.2.no rfl).1]; simp [boolN])
              have HCn : Hid (ch = false → closedN i N L') := Lib.hid (fun hc a b ha hb hcm => by
                have h2 := HD.out.2.2.no hc
                rw [h2.1]
                exact h2.2 a b (Or.inl ⟨ha, hb⟩) hcm)
              go_wp2_with fail
              go_round
              case rel => exact ⟨ch, L', rfl, Lib.hid ⟨HD.out.1, HD.out.2.1, HCn.out⟩⟩
              case measure => exact HMs.out
        | false =>
          have HIff := Lib.hid (HC.out.2.1.closed (HC.out.2.2 rfl))
          have HLs := Lib.hid HC.out.2.1
          have HPs := Lib.hid HC.out.1.lst
          have HBs := Lib.hid HC.out.1.low
          obtain ⟨i1, hi1, hy0, hy1, hy2⟩ := infoP info_intJ
          obtain ⟨i2, hi2, hz0, hz1, hz2⟩ := infoP info_rowL
          obtain ⟨wc, rfl⟩ : ∃ y, y = wr := ⟨_, rfl⟩
          go_wp2_with fail
          go_loopw [12, 13] (fun sv iv ws => ∃ (k : Nat) (ov : Value), k ≤ n ∧ sv = ov ∧ iv = .int .i64 k ∧ Hid (Below W.heap.size W ws ∧ IsP ws lb n L ∧ OutS W ws ov (outF L n k))) (fun _ iv _ => n - (intOf iv).toNat)
          case atStart => exact ⟨0, _, Nat.zero_le _, rfl, by go_num, Lib.hid ⟨HBs.out, HPs.out, OutS.nil W _⟩⟩
          case round =>
            obtain ⟨k, ov, hk, hov, rfl, HO⟩ := hrel
            replace hov := hov.symm
            subst hov
            by_cases hkn : k < n
            · have hd2 : decide ((k : Int) < n) = true := decide_eq_true (by omega)
              have hk0 : (0 : Int) ≤ k := by omega
              have hk1 : (k : Int) < n := by omega
              obtain ⟨lk, Hlk⟩ : ∃ y, Hid (y = L k) := ⟨_, Lib.hid rfl⟩
              have ck : wr.cell? ⟨lb, k, none⟩ = some (.int .i64 (lk : Nat)) := by rw [Hlk.out]; exact HO.out.2.1.cell hkn
              by_cases hlk : lk = k
              · have HOx : Hid (outF L n (k + 1) = outF L n k ++ [oneF L k n]) := Lib.hid (by
                  rw [outF_succ, if_pos (by rw [← Hlk.out]; exact hlk)]; rfl)
                have hkk := hlk.symm
                subst hkk
                have e1 : ((k : Int) == (k : Int)) = true := by simp
                obtain ⟨wk, rfl⟩ : ∃ y, y = wr := ⟨_, rfl⟩
                go_wp2_with fail
                clear ck e1
                go_loopw [14, 15] (fun sv jv ws => ∃ (j : Nat) (uv : Value), k ≤ j ∧ j ≤ n ∧ sv = uv ∧ jv = .int .i64 j ∧ Hid (Below wk.heap.size wk ws ∧ ws.ownsRow wk.heap.size 3 1 uv (oneF L k j).length (natC (oneF L k j)))) (fun _ jv _ => n - (intOf jv).toNat)
                case atStart => exact ⟨k, _, Nat.le_refl _, by omega, rfl, by go_num, Lib.hid ⟨Below.refl _ _, by rw [HLs.out.one (by omega)]; exact World.ownsRow_nil _ _ _ _⟩⟩
                case round =>
                  obtain ⟨j, uv, hkj, hjn', huv, rfl, HJ⟩ := hrel
                  replace huv := huv.symm
                  subst huv
                  by_cases hjn : j < n
                  · have hd3 : decide ((j : Int) < n) = true := decide_eq_true (by omega)
                    have hj0 : (0 : Int) ≤ j := by omega
                    have hj1 : (j : Int) < n := by omega
                    obtain ⟨lj, Hlj⟩ : ∃ y, Hid (y = L j) := ⟨_, Lib.hid rfl⟩
                    have cj : wr.cell? ⟨lb, j, none⟩ = some (.int .i64 (lj : Nat)) := by rw [Hlj.out]; exact (HO.out.2.1.below HJ.out.1).cell hjn
                    obtain ⟨m, Hm⟩ : ∃ y, Hid (y = (oneF L k j).length) := ⟨_, Lib.hid rfl⟩
                    have hmj : m ≤ j := by rw [Hm.out]; exact oneF_len L k j
                    by_cases hljk : lj = k
                    · have HNx : Hid (oneF L k (j + 1) = oneF L k j ++ [j]) := Lib.hid (by rw [oneF_succ, if_pos (by rw [← Hlj.out]; exact hljk)])
                      have hkl := hljk.symm
                      subst hkl
                      have e2 : ((k : Int) == (k : Int)) = true := by simp
                      have hrow := HJ.out.2
                      rw [← Hm.out] at hrow
                      obtain ⟨xs, Hxs⟩ : ∃ y, Hid (y = natC (oneF L k j)) := ⟨_, Lib.hid rfl⟩
                      rw [← Hxs.out] at hrow
                      have HBA : Hid (Below wr.heap.size wr (wr.alloc (.cells #[.int .i64 j] 3))) := Lib.hid ((Below.refl _ _).alloc (Nat.le_refl _) _)
                      have HBW := Lib.hid (below_step HJ.out.1 HBA.out)
                      have HOr : Hid ((wr.alloc (.cells #[.int .i64 j] 3)).ownsRow wk.heap.size 3 1 uv m xs) := Lib.hid (owns_belowM hrow HBA.out)
                      have HNs := Lib.hid (news_one wr 3 (.int .i64 j))
                      have HOn : Hid (∀ u ∈ [Value.int .i64 (j : Int)], u.oneCell' = true) := Lib.hid (by simp [Value.oneCell'])
                      have hsz := HBW.out.size
                      clear hrow
                      go_wp2_with (at_builtin; refine wpList_append_own _ rfl _ _ 29 rfl wk.heap.size 3 i1 _ 1 8 Try.underlying29 hi1 hy0 hy1 hy2 rfl (by decide) uv m xs rfl HOr.out ⟨wr.heap.size, 0, none⟩ 1 1 [.int .i64 j] rfl (by simp) HNs.out HOn.out (by unfold maxLen; omega) (by omega) hsz ?_; intro v' w4 hown hgrow _; refine Hid.out ?_)
                      refine Lib.hid ?_
                      have HB4 : Hid (Below wk.heap.size wk w4) := Lib.hid (HBW.out.grown hgrow hsz (fun y e => (HOr.out.lt y e).1))
                      have HO4 : Hid (w4.ownsRow wk.heap.size 3 1 v' (oneF L k (j + 1)).length (natC (oneF L k (j + 1)))) := Lib.hid (by
                        rw [HNx.out, List.length_append, ← Hm.out]
                        unfold natC at Hxs ⊢
                        rw [List.map_append, ← Hxs.out]
                        exact hown)
                      clear hown hgrow hsz cj e2
                      go_wp2_with fail
                      go_round
                      case rel => exact ⟨j + 1, _, by omega, by omega, rfl, by go_num, Lib.hid ⟨HB4.out, HO4.out⟩⟩
                      case measure => simp [intOf]; omega
                    · have e2 : ((lj : Int) == (k : Int)) = false := by simp; omega
                      have HNx : Hid (oneF L k (j + 1) = oneF L k j) := Lib.hid (by rw [oneF_succ, if_neg (by rw [← Hlj.out]; exact hljk), List.append_nil])
                      clear hljk
                      go_wp2_with fail
                      go_round
                      case rel => exact ⟨j + 1, _, by omega, by omega, rfl, by go_num, Lib.hid ⟨HJ.out.1, by rw [HNx.out]; exact HJ.out.2⟩⟩
                      case measure => simp [intOf]; omega
                  · obtain rfl : j = n := by omega
                    have hd3 : decide ((j : Int) < j) = false := decide_eq_false (by omega)
                    obtain ⟨n, rfl⟩ : ∃ y, y = j := ⟨_, rfl⟩
                    have hso := HO.out.2.2.below HJ.out.1
                    have HIr := Lib.hid (HO.out.2.1.below HJ.out.1)
                    obtain ⟨us, h1, h2⟩ := hso.ex
                    obtain ⟨m, Hm⟩ : ∃ y, Hid (y = (outF L n k).length) := ⟨_, Lib.hid rfl⟩
                    have hmk : m ≤ k := by rw [Hm.out]; exact outF_len L n k
                    rw [← Hm.out] at h1
                    obtain ⟨uo, uc, rfl⟩ := owns_shapeM HJ.out.2
                    obtain ⟨ul, Hul⟩ : ∃ y, Hid (y = (oneF L k n).length) := ⟨_, Lib.hid rfl⟩
                    rw [← Hul.out] at HJ ⊢
                    have H2 := Lib.hid h2
                    have HBA : Hid (Below wr.heap.size wr (wr.alloc (.cells #[.slice uo ul uc] 29))) := Lib.hid ((Below.refl _ _).alloc (Nat.le_refl _) _)
                    have HBW := Lib.hid (below_step (below_step HO.out.1 HJ.out.1) HBA.out)
                    have HOr : Hid ((wr.alloc (.cells #[.slice uo ul uc] 29)).ownsRow W.heap.size 29 1 ov m us) := Lib.hid (owns_belowM h1 HBA.out)
                    have HNs := Lib.hid (news_one wr 29 (.slice uo ul uc))
                    have HOn : Hid (∀ u ∈ [Value.slice uo ul uc], u.oneCell' = true) := Lib.hid (by simp [Value.oneCell'])
                    have hsz := HBW.out.size
                    clear h1 h2 hso
                    go_wp2_with (at_builtin; refine wpList_append_own _ rfl _ _ 26 rfl W.heap.size 29 i2 _ 1 24 Try.underlying26 hi2 hz0 hz1 hz2 rfl (by decide) ov m us rfl HOr.out ⟨wr.heap.size, 0, none⟩ 1 1 [.slice uo ul uc] rfl (by simp) HNs.out HOn.out (by unfold maxLen; omega) (by omega) hsz ?_; intro v' w4 hown hgrow _; refine Hid.out ?_)
                    refine Lib.hid ?_
                    have HB4 : Hid (Below W.heap.size W w4) := Lib.hid (HBW.out.grown hgrow hsz (fun y e => (HOr.out.lt y e).1))
                    have HP4 : Hid (IsP w4 lb n L) := Lib.hid (whole_grownM (whole_belowM HIr.out HBA.out) hgrow (owns_wholeM HOr.out (whole_belowM HIr.out HBA.out) (by decide)))
                    have keepR : ∀ {x : Value} {q : Nat} {ys : List Value}, wr.ownsRow W.heap.size 3 1 x q ys → w4.ownsRow W.heap.size 3 1 x q ys := fun hx => by
                      have hx' := owns_belowM hx HBA.out
                      exact Apart.kept (owns_apartJ HOr.out hx' (by decide)) hx' hgrow
                    have HO4 : Hid (OutS W w4 v' (outF L n (k + 1))) := Lib.hid (by
                      rw [HOx.out]
                      have hul : us.length = m := by have := HOr.out.1; omega
                      refine ⟨us ++ [.slice uo ul uc], by rw [List.length_append, ← Hm.out]; exact hown, fun q hq => ?_⟩
                      by_cases hqm : q < (outF L n k).length
                      · obtain ⟨u, h3, h4⟩ := H2.out q hqm
                        rw [List.getElem_append_left hqm]
                        exact ⟨u, by rw [List.getElem?_append_left (by rw [hul, Hm.out]; exact hqm)]; exact h3, keepR h4⟩
                      · have hqe : q = m := by rw [List.length_append, List.length_singleton] at hq; have := Hm.out; omega
                        subst hqe
                        refine ⟨.slice uo ul uc, by rw [← hul, List.getElem?_concat_length], ?_⟩
                        rw [List.getElem_append_right (by rw [← Hm.out]; exact Nat.le_refl _)]
                        simp only [← Hm.out, Nat.sub_self, List.getElem_cons_zero]
                        have := owns_baseM HJ.out.2 HO.out.1.size
                        rw [← Hul.out]
                        exact keepR this)
                    clear hown hgrow hsz keepR
                    go_wp2_with fail
                    go_round
                    case rel => exact ⟨k + 1, _, by omega, rfl, by go_num, Lib.hid ⟨HB4.out, HP4.out, HO4.out⟩⟩
                    case measure => simp [intOf]; omega
              · have e1 : ((lk : Int) == (k : Int)) = false := by simp; omega
                have HOx : Hid (outF L n (k + 1) = outF L n k) := Lib.hid (by
                  rw [outF_succ, if_neg (by rw [← Hlk.out]; exact hlk), List.append_nil])
                clear hlk
                go_wp2_with fail
                go_round
                case rel => exact ⟨k + 1, _, by omega, rfl, by go_num, Lib.hid ⟨HO.out.1, HO.out.2.1, by rw [HOx.out]; exact HO.out.2.2⟩⟩
                case measure => simp [intOf]; omega
            · obtain rfl : k = n := by omega
              have hd2 : decide ((k : Int) < k) = false := decide_eq_false (by omega)
              have HNN : Hid (IsNN wr ov (groups L k)) := Lib.hid (by
                have := HO.out.2.2.isNN
                rw [HLs.out.groups] at this
                exact this)
              go_wp2_with fail
              go_ret
              exact HPost.out ov L wr HIff.out HNN.out HO.out.1
end Go.Proofs.Ytolnpimnoajcaaa

/- The reference's Of; the law's few with what it says of sizes. -/
namespace Go.Proofs.Ytolnpimnoajcaaa
open Go.RowKit
open Evt Lnk

set_option maxRecDepth 100000 in
theorem few14S_any (ao : Option Addr) (l : List Rp) (cap : Nat) (hl : l.length ≤ 9223372036854775807) (W : World) (hi : IsL 2 ElRp W ao l) :
    Calls Try.prog 11 #[.slice ao l.length cap] W (YN (l.length ≤ 40 ∧ ∀ r ∈ l, ∀ e ∈ r.opts, Shrt e) W) := by
  have HS := Lib.hid (few13S_any 40 ao l cap hl W hi)
  clear hi
  obtain ⟨n, Hn⟩ : ∃ n, Hid (n = l.length) := ⟨_, Lib.hid rfl⟩
  obtain ⟨Q, HQ⟩ : ∃ q : Prop, Hid (q = (l.length ≤ 40 ∧ ∀ r ∈ l, ∀ e ∈ r.opts, Shrt e)) := ⟨_, Lib.hid rfl⟩
  rw [← HQ.out, ← Hn.out] at HS ⊢
  go_enter Try.func11, Try.ntmps11
  go_wp2_with fail
  refine HS.out.mono ?_
  rintro e w1 ⟨b, rfl, h, hb⟩
  have HE := Lib.hid h
  have HB := Lib.hid hb
  clear h hb
  go_wp2_with fail
  go_ret
  exact ⟨b, rfl, HE.out, HB.out⟩

theorem com_one (a : List (List UInt8)) (x : ByteArray) : comB a [bts x] = decide (bts x ∈ a) := by
  rw [Bool.eq_iff_iff, comB_iff, decide_eq_true_eq]
  constructor
  · rintro ⟨y, h1, h2⟩
    rw [List.mem_singleton.1 h2] at h1
    exact h1
  · intro h
    exact ⟨_, h, List.mem_singleton.2 rfl⟩
set_option maxRecDepth 100000 in
set_option maxHeartbeats 8000000 in
theorem refOf_any (l : List Rp) (ao : Option Addr) (cap : Nat) (x : ByteArray) (hl : l.length ≤ 1000000) (hs : ∀ r ∈ l, ∀ e ∈ r.opts, Shrt e) (W : World) (hi : IsL 2 ElRp W ao l) :
    Calls Try.prog 17 #[.slice ao l.length cap, .string x] W (OfPost l x W) := by
  obtain ⟨n, Hn⟩ : ∃ n, Hid (n = l.length) := ⟨_, Lib.hid rfl⟩
  have HCm := Lib.hid (refComp_any ao l cap hl hs W hi)
  have HI := Lib.hid hi
  have HSh := Lib.hid hs
  have HPost : Hid (∀ v r w', (∀ a b, a < l.length → b < l.length → (r a = r b ↔ Conn l.length (namesAt l) a b)) → IsN w' v (ofA l x r) → Below W.heap.size W w' → OfPost l x W (.returned v) w') := Lib.hid (fun v r w' h1 h2 h3 => ⟨v, r, rfl, h1, h2, h3⟩)
  clear hi hs
  rw [← Hn.out] at hl
  rw [show #[Value.slice ao l.length cap, .string x] = #[Value.slice ao n cap, .string x] by rw [Hn.out]]
  rw [show #[Value.slice ao l.length cap] = #[Value.slice ao n cap] by rw [Hn.out]] at HCm
  go_enter Try.func17, Try.ntmps17
  go_wp2_with fail
  refine HCm.out.mono ?_
  rintro e w1 ⟨sv, r, rfl, hr, hs, hb⟩
  have HB1 := Lib.hid hb
  have HRq := Lib.hid hr
  have HI1 := Lib.hid (HI.out.below stRp hb)
  obtain ⟨gs, Hgs⟩ : ∃ g, Hid (g = groups r l.length) := ⟨_, Lib.hid rfl⟩
  rw [← Hgs.out] at hs
  obtain ⟨so, sc, rfl, hsets⟩ := hs
  have HSt := Lib.hid hsets
  obtain ⟨N, HN⟩ : ∃ g, Hid (g = gs.length) := ⟨_, Lib.hid rfl⟩
  rw [← HN.out]
  have hNn : N ≤ n := by rw [HN.out, Hgs.out, groups_len, Hn.out]; exact reps_len r _
  clear hr hsets hb
  go_wp2_with fail
  go_loopw [6] (fun i wr => ∃ k : Nat, k ≤ N ∧ i = .int .i64 k ∧ Hid (Below w1.heap.size w1 wr ∧ ∀ g ∈ gs.take k, g.any (hasP l x) = false)) (fun i _ => N - (intOf i).toNat)
  case atStart => exact ⟨0, Nat.zero_le _, by go_num, Lib.hid ⟨Below.refl _ _, by simp⟩⟩
  case round =>
    obtain ⟨k, hk, rfl, HR⟩ := hrel
    by_cases hkn : k < N
    · have hd : decide ((k : Int) < N) = true := decide_eq_true (by omega)
      have hb0 : (0 : Int) ≤ k := by omega
      have hb1 : (k : Int) < N := by omega
      have hkg : k < gs.length := by rw [← HN.out]; exact hkn
      obtain ⟨b, u, rfl, hb, cc, hu⟩ := HSt.out k hkg
      have HMm : Hid (gs[k] ∈ groups r l.length) := Lib.hid (by rw [← Hgs.out]; exact List.getElem_mem hkg)
      obtain ⟨uo, uc, rfl, hU⟩ := hu
      have HU := Lib.hid hU
      have HUn : Hid (IsN w1 (.slice uo gs[k].length uc) gs[k]) := Lib.hid ⟨uo, uc, rfl, hU⟩
      obtain ⟨m, Hm⟩ : ∃ m, Hid (m = gs[k].length) := ⟨_, Lib.hid rfl⟩
      rw [← Hm.out] at cc HUn
      have hmn : m ≤ n := by have := group_len HMm.out; rw [← Hm.out, ← Hn.out] at this; exact this
      have HCc := Lib.hid (fun w (hw : Below w1.heap.size w1 w) => (cellB hw hb).trans cc)
      clear hU cc
      obtain ⟨wo, rfl⟩ : ∃ y, y = wr := ⟨_, rfl⟩
      go_wp2_with fail
      go_loopw [7] (fun i ws => ∃ j : Nat, j ≤ m ∧ i = .int .i64 j ∧ Hid (Below w1.heap.size w1 ws ∧ (gs[k].take j).any (hasP l x) = false)) (fun i _ => m - (intOf i).toNat)
      case atStart => exact ⟨0, Nat.zero_le _, by go_num, Lib.hid ⟨HR.out.1, rfl⟩⟩
      case round =>
        obtain ⟨j, hj, rfl, HJ⟩ := hrel
        have cc := HCc.out wr HJ.out.1
        by_cases hjm : j < m
        · have hd2 : decide ((j : Int) < m) = true := decide_eq_true (by omega)
          have hj0 : (0 : Int) ≤ j := by omega
          have hj1 : (j : Int) < m := by omega
          have hjg : j < gs[k].length := by rw [← Hm.out]; exact hjm
          obtain ⟨bu, rfl, hbu, cu⟩ := HU.out j hjg
          have cu := (cellB HJ.out.1 hbu).trans cu
          have hzl : gs[k][j] < l.length := group_lt HMm.out _ (List.getElem_mem hjg)
          obtain ⟨z, Hz⟩ : ∃ z, Hid (z = gs[k][j]) := ⟨_, Lib.hid rfl⟩
          rw [← Hz.out] at cu hzl
          have hz0 : (0 : Int) ≤ z := by omega
          have hz1 : (z : Int) < n := by rw [Hn.out]; omega
          obtain ⟨bk, off, cs, rfl, hbk, hrg, oo, oc, rfl, hel, hc1, hc2⟩ := (HI1.out.below stRp HJ.out.1).at hzl
          obtain ⟨y, Hy⟩ : ∃ m, Hid (m = l[z]) := ⟨_, Lib.hid rfl⟩
          rw [← Hy.out] at hrg hel hc1
          have d0 := hrg 0 _ rfl
          have d1 := hrg 1 _ rfl
          rw [Nat.add_zero] at d0
          have HNm := Lib.hid (refNames_any y oo oc hc1 hc2 (HSh.out y (by rw [Hy.out]; exact List.getElem_mem hzl)) wr hel)
          obtain ⟨on, Hon⟩ : ∃ m, Hid (m = y.opts.length) := ⟨_, Lib.hid rfl⟩
          obtain ⟨yd, Hyd⟩ : ∃ m, Hid (m = y.doubt) := ⟨_, Lib.hid rfl⟩
          rw [← Hon.out] at d0 HNm
          rw [← Hyd.out] at d1 HNm
          have HPz : Hid (hasP l x z = decide (bts x ∈ namesR y)) := Lib.hid (by unfold hasP; rw [namesAt_get hzl, Hy.out])
          clear hrg hel hc1
          go_wp2_with fail
          refine HNm.out.mono ?_
          rintro e w2 ⟨nv, rfl, hS, hb2⟩
          have HB2 := Lib.hid (below_step HJ.out.1 hb2)
          obtain ⟨Y, HY⟩ : ∃ w, Hid (w = w2.alloc (.cells #[.string x] 9)) := ⟨_, Lib.hid rfl⟩
          have HBY : Hid (Below w2.heap.size w2 Y) := Lib.hid (by rw [HY.out]; exact (Below.refl _ _).alloc (Nat.le_refl _) _)
          have HIy : Hid (IsS Y (.slice (some ⟨w2.heap.size, 0, none⟩) 1 1) [bts x]) := Lib.hid (by rw [HY.out]; exact isS_whole (l := [x]) (Whole.new _ _ _))
          have HCo := Lib.hid (common_any (namesR y) [bts x] (by have := namesR_len y; omega) (by simp) Y nv _ (hS.below HBY.out) HIy.out)
          rw [com_one, ← HPz.out] at HCo
          obtain ⟨R, HRr⟩ : ∃ b, Hid (b = hasP l x z) := ⟨_, Lib.hid rfl⟩
          rw [← HRr.out] at HCo
          clear hS hb2 d0 d1 cu cc
          go_wp2_with fail
          rw [← HY.out]
          refine HCo.out.mono ?_
          rintro e w3 ⟨rfl, hb3⟩
          have HB3 := Lib.hid (below_step (below_step HB2.out HBY.out) hb3)
          clear hb3
          cases R with
          | true =>
            have HAny : Hid (gs[k].any (hasP l x) = true) := Lib.hid (List.any_eq_true.2 ⟨z, by rw [Hz.out]; exact List.getElem_mem hjg, HRr.out.symm⟩)
            have HOf : Hid (ofA l x r = gs[k]) := Lib.hid (by
              unfold ofA
              rw [← Hgs.out]
              have hf : gs.find? (fun g => g.any (hasP l x)) = some gs[k] := by
                rw [List.find?_eq_some_iff_getElem]
                exact ⟨HAny.out, k, hkg, rfl, fun j hj => by
                  have : gs[j] ∈ gs.take k := by rw [List.mem_take_iff_getElem]; exact ⟨j, by omega, rfl⟩
                  rw [HR.out.2 _ this]; rfl⟩
              rw [hf]; rfl)
            have HIs : Hid (IsN w3 (.slice (some ⟨bu, 0, none⟩) m uc) (ofA l x r)) := Lib.hid (by rw [HOf.out]; exact HUn.out.below HB3.out)
            have HBe := Lib.hid (below_step HB1.out HB3.out)
            have cc := HCc.out w3 HB3.out
            go_wp2_with fail
            go_ret
            exact HPost.out _ r w3 HRq.out HIs.out HBe.out
          | false =>
            have HNx : Hid ((gs[k].take (j + 1)).any (hasP l x) = false) := Lib.hid (any_next hjg HJ.out.2 (by rw [← Hz.out]; exact HRr.out.symm))
            go_wp2_with fail
            go_round
            case rel => exact ⟨j + 1, by omega, by go_num, Lib.hid ⟨HB3.out, HNx.out⟩⟩
            case measure => simp [intOf]; omega
        · obtain rfl : j = m := by omega
          have hd2 : decide ((j : Int) < j) = false := decide_eq_false (by omega)
          have HNx : Hid (∀ g ∈ gs.take (k + 1), g.any (hasP l x) = false) := Lib.hid (fun z hz => by
            rw [← List.take_append_getElem hkg, List.mem_append, List.mem_singleton] at hz
            rcases hz with hz | hz
            · exact HR.out.2 z hz
            · have := HJ.out.2
              rw [Hm.out, List.take_length] at this
              rw [hz]; exact this)
          go_wp2_with fail
          go_round
          case rel => exact ⟨k + 1, by omega, by go_num, Lib.hid ⟨HJ.out.1, HNx.out⟩⟩
          case measure => simp [intOf]; omega
    · obtain rfl : k = N := by omega
      have hd : decide ((k : Int) < k) = false := decide_eq_false (by omega)
      have HOf : Hid (ofA l x r = []) := Lib.hid (by
        unfold ofA
        rw [← Hgs.out]
        have hf : gs.find? (fun g => g.any (hasP l x)) = none := by
          rw [List.find?_eq_none]
          intro g hg
          have := HR.out.2 g (by rw [HN.out, List.take_length]; exact hg)
          rw [this]; simp
        rw [hf]; rfl)
      have HIs : Hid (IsN wr (.slice none 0 0) (ofA l x r)) := Lib.hid (by rw [HOf.out]; exact ⟨none, 0, rfl, fun j hj => by simp at hj⟩)
      have HBe := Lib.hid (below_step HB1.out HR.out.1)
      go_wp2_with fail
      go_ret
      exact HPost.out _ r wr HRq.out HIs.out HBe.out
end Go.Proofs.Ytolnpimnoajcaaa

/- LinkMatchesReference. -/
namespace Go.Proofs.Ytolnpimnoajcaaa
open Go.RowKit
open Evt Lnk

theorem ofA_congrR {l : List Rp} {x : ByteArray} {r r' : Nat → Nat} (hr : ∀ a b, a < l.length → b < l.length → (r a = r b ↔ Conn l.length (namesAt l) a b)) (hr' : ∀ a b, a < l.length → b < l.length → (r' a = r' b ↔ Conn l.length (namesAt l) a b)) : ofA l x r' = ofA l x r := by
  unfold ofA
  rw [groups_congr (r := r') (r' := r) (fun a b ha hb => (hr' a b ha hb).trans (hr a b ha hb).symm)]
theorem ofA_len {l : List Rp} {x : ByteArray} {r : Nat → Nat} : (ofA l x r).length ≤ l.length := by
  unfold ofA
  cases h : (groups r l.length).find? fun g => g.any (hasP l x) with
  | none => simp
  | some g => exact group_len (List.mem_of_find?_eq_some h)
set_option maxRecDepth 100000 in
set_option maxHeartbeats 16000000 in
theorem matches_any (ao : Option Addr) (l : List Rp) (cap : Nat) (hlc : l.length ≤ cap) (hcp : cap ≤ 9223372036854775807) (x : ByteArray) (W : World) (hi : IsL 2 ElRp W ao l) :
    Calls Try.prog 3 #[.slice ao l.length cap, .string x] W fun e w' => e = .returned (.bool true) ∧ Below W.heap.size W w' := by
  have HHd := Lib.hid (head_any W)
  have HFw := Lib.hid (fun w h => few14S_any ao l cap (by omega) w h)
  have HI := Lib.hid hi
  clear hi
  obtain ⟨n, Hn⟩ : ∃ n, Hid (n = l.length) := ⟨_, Lib.hid rfl⟩
  obtain ⟨Q, HQ⟩ : ∃ q : Prop, Hid (q = (l.length ≤ 40 ∧ ∀ r ∈ l, ∀ e ∈ r.opts, Shrt e)) := ⟨_, Lib.hid rfl⟩
  rw [← HQ.out, ← Hn.out] at HFw
  rw [← Hn.out] at hlc ⊢
  obtain ⟨y1, e1⟩ : ∃ b, decide ((100 : Int) < x.size) = b := ⟨_, rfl⟩
  go_enter Try.func3, Try.ntmps3
  go_wp2_with fail
  refine HHd.out.mono ?_
  rintro e w1 ⟨rfl, hb⟩
  have HB1 := Lib.hid hb
  have HI1 := Lib.hid (HI.out.below stRp hb)
  clear hb
  go_wp2_with fail
  refine (HFw.out _ HI1.out).mono ?_
  rintro e w2 ⟨b, rfl, hq, hb⟩
  have HB2 := Lib.hid (below_step HB1.out hb)
  have HI2 := Lib.hid (HI1.out.below stRp hb)
  clear hb
  cases b with
  | false =>
    go_wp2_with fail
    go_ret
    exact ⟨rfl, HB2.out⟩
  | true =>
  have hq2 := hq rfl
  rw [HQ.out] at hq2
  have hn40 : n ≤ 40 := by rw [Hn.out]; exact hq2.1
  have HSh := Lib.hid hq2.2
  clear hq hq2
  cases y1 with
  | true =>
    go_wp2_with fail
    go_ret
    exact ⟨rfl, HB2.out⟩
  | false =>
  have hnl : l.length ≤ 1000000 := by rw [← Hn.out]; omega
  have HCm := Lib.hid (comp_any coll_any ao l cap hnl w2 HI2.out)
  have HRc := Lib.hid (fun w h => refComp_any ao l cap hnl HSh.out w h)
  have HO := Lib.hid (fun w h => linkOf_any l ao cap x hnl w h)
  have HRo := Lib.hid (fun w h => refOf_any l ao cap x hnl HSh.out w h)
  have HD := Lib.hid (fun w h => doubts_any ao l cap hnl w h)
  have HRd := Lib.hid (fun w h => refDoubts_any ao l cap hnl HSh.out w h)
  have HOl : Hid (∀ r, (ofA l x r).length ≤ 1000000) := Lib.hid (fun r => Nat.le_trans ofA_len hnl)
  obtain ⟨D, HDd⟩ : ∃ d, Hid (d = doubts l) := ⟨_, Lib.hid rfl⟩
  rw [← HDd.out] at HD HRd
  rw [show #[Value.slice ao l.length cap] = #[Value.slice ao n cap] by rw [Hn.out]] at HCm HRc HD HRd
  rw [show #[Value.slice ao l.length cap, .string x] = #[Value.slice ao n cap, .string x] by rw [Hn.out]] at HO HRo
  clear hnl
  go_wp2_with fail
  refine HCm.out.mono ?_
  rintro e w3 ⟨sv, r, rfl, hr, hs, hb⟩
  have HRr := Lib.hid hr
  have HNN := Lib.hid (IsNN.sets hs)
  have HB3 := Lib.hid (below_step HB2.out hb)
  have HI3 := Lib.hid (HI2.out.below stRp hb)
  clear hr hs hb
  go_wp2_with fail
  refine (HRc.out w3 HI3.out).mono ?_
  rintro e w4 ⟨tv, s, rfl, hr, hs, hb⟩
  have HRs := Lib.hid hr
  have HB4 := Lib.hid (below_step HB3.out hb)
  have HI4 := Lib.hid (HI3.out.below stRp hb)
  have HG : Hid (groups s l.length = groups r l.length) := Lib.hid (groups_congr (fun a b ha hb => (HRs.out a b ha hb).trans (HRr.out a b ha hb).symm))
  rw [HG.out] at hs
  have hgl : (groups r l.length).length ≤ 1000000 := by rw [groups_len]; have := reps_len r l.length; rw [← Hn.out] at this ⊢; omega
  have hgm : ∀ g ∈ groups r l.length, g.length ≤ 1000000 := fun g hg => by have := group_len hg; rw [← Hn.out] at this; omega
  have HSm := Lib.hid (same_any (groups r l.length) (groups r l.length) hgl hgl hgm hgm w4 sv tv (HNN.out.below hb) hs)
  rw [decide_eq_true rfl] at HSm
  clear hr hs hb hgl hgm
  go_wp2_with fail
  refine HSm.out.mono ?_
  rintro e w5 ⟨rfl, hb⟩
  have HB5 := Lib.hid (below_step HB4.out hb)
  have HI5 := Lib.hid (HI4.out.below stRp hb)
  clear hb
  go_wp2_with fail
  refine (HO.out w5 HI5.out).mono ?_
  rintro e w6 ⟨ov, r6, rfl, hr, hn, hb⟩
  rw [ofA_congrR HRr.out hr] at hn
  have HN6 := Lib.hid hn
  have HB6 := Lib.hid (below_step HB5.out hb)
  have HI6 := Lib.hid (HI5.out.below stRp hb)
  clear hr hn hb
  go_wp2_with fail
  refine (HRo.out w6 HI6.out).mono ?_
  rintro e w7 ⟨pv, r7, rfl, hr, hn, hb⟩
  rw [ofA_congrR HRr.out hr] at hn
  have HB7 := Lib.hid (below_step HB6.out hb)
  have HI7 := Lib.hid (HI6.out.below stRp hb)
  have HIn := Lib.hid (ints_any (ofA l x r) (ofA l x r) (HOl.out r) (HOl.out r) w7 ov pv (HN6.out.below hb) hn)
  rw [decide_eq_true rfl] at HIn
  clear hr hn hb
  go_wp2_with fail
  refine HIn.out.mono ?_
  rintro e w8 ⟨rfl, hb⟩
  have HB8 := Lib.hid (below_step HB7.out hb)
  have HI8 := Lib.hid (HI7.out.below stRp hb)
  clear hb
  go_wp2_with fail
  refine (HD.out w8 HI8.out).mono ?_
  rintro e w9 ⟨rfl, hb⟩
  have HB9 := Lib.hid (below_step HB8.out hb)
  have HI9 := Lib.hid (HI8.out.below stRp hb)
  clear hb
  go_wp2_with fail
  refine (HRd.out w9 HI9.out).mono ?_
  rintro e wa ⟨rfl, hb⟩
  have HBa := Lib.hid (below_step HB9.out hb)
  clear hb
  have hdd : ((D : Int) == (D : Int)) = true := by simp
  go_wp2_with fail
  go_ret
  exact ⟨rfl, HBa.out⟩
end Go.Proofs.Ytolnpimnoajcaaa
