/- The walks of the statements on disks: lists of operations, contents, comparing. -/
import Derived.Test.YtenddmcepfkbaaaDskDo
import Derived.Lib.Strings
namespace Go.Proofs.Ytenddmcepfkbaaa
open Go.RowKit

/-- A list of operations lies behind this address. -/
def IsActs (W : World) (ao : Option Addr) (l : List Ac) : Prop :=
  l = [] ∨ ∃ bk off, ao = some ⟨bk, off, none⟩ ∧ bk < W.heap.size ∧ ∀ k, (h : k < l.length) → W.cell? ⟨bk, off + k * 6, none⟩ = some (.int .i64 l[k].kind) ∧ W.cell? ⟨bk, off + k * 6 + 1, none⟩ = some (.int .i64 l[k].sector) ∧ W.cell? ⟨bk, off + k * 6 + 2, none⟩ = some (.int .i64 l[k].byt) ∧
    W.cell? ⟨bk, off + k * 6 + 3, none⟩ = some (.string l[k].text) ∧ W.cell? ⟨bk, off + k * 6 + 4, none⟩ = some (.bool l[k].odd) ∧ W.cell? ⟨bk, off + k * 6 + 5, none⟩ = some (.int .i64 l[k].after)
theorem IsActs.below {W W' : World} {B : Nat} {ao : Option Addr} {l : List Ac} (h : IsActs W ao l) (hb : Below B W W') (hB : ∀ bk off, ao = some ⟨bk, off, none⟩ → bk < B) : IsActs W' ao l := by
  rcases h with h | ⟨bk, off, h1, h2, h3⟩
  · exact Or.inl h
  · have hlt := hB bk off h1
    refine Or.inr ⟨bk, off, h1, Nat.lt_of_lt_of_le h2 hb.size, fun k hk => ?_⟩
    rw [hb.cell (p := ⟨bk, off + k * 6, none⟩) hlt, hb.cell (p := ⟨bk, off + k * 6 + 1, none⟩) hlt, hb.cell (p := ⟨bk, off + k * 6 + 2, none⟩) hlt, hb.cell (p := ⟨bk, off + k * 6 + 3, none⟩) hlt, hb.cell (p := ⟨bk, off + k * 6 + 4, none⟩) hlt, hb.cell (p := ⟨bk, off + k * 6 + 5, none⟩) hlt]
    exact h3 k hk
def shortB (a : Ac) : Bool := decide (a.text.size ≤ 100)
def okB (l : List Ac) : Bool := l.all shortB && decide (l.length ≤ 60)
theorem okB_iff {l : List Ac} : okB l = true ↔ (∀ a ∈ l, a.text.size ≤ 100) ∧ l.length ≤ 60 := by simp [okB, shortB]

theorem ok_any (l : List Ac) (hl : l.length ≤ 9223372036854775807) (hsz : ∀ a ∈ l, a.text.size ≤ 9223372036854775807) (ao : Option Addr) (cap : Nat) (w : World) (h : IsActs w ao l) :
    Calls Try.prog 12 #[.slice ao l.length cap] w fun e w' => e = .returned (.bool (okB l)) ∧ w = w' := by
  obtain ⟨n, Hn⟩ : ∃ n, Hid (n = l.length) := ⟨_, Lib.hid rfl⟩
  rw [← Hn.out] at hl ⊢
  have H := Lib.hid h
  have HZ := Lib.hid hsz
  obtain ⟨r, Hr⟩ : ∃ r, Hid (r = okB l) := ⟨_, Lib.hid rfl⟩
  rw [← Hr.out]
  clear h hsz
  go_enter Try.func12, Try.ntmps12
  go_wp2
  go_loop [3] (fun i => ∃ k : Nat, k ≤ n ∧ i = .int .i64 k ∧ Hid (∀ j, (hj : j < l.length) → j < k → l[j].text.size ≤ 100)) (fun i => n - (intOf i).toNat)
  case atStart => exact ⟨0, by omega, rfl, Lib.hid fun j _ h => by omega⟩
  case round =>
    obtain ⟨k, hk, rfl, HK⟩ := hrel
    by_cases hlt : k < n
    · have hkl : k < l.length := by rw [← Hn.out]; exact hlt
      have hlt' : (k : Int) < n := by omega
      rcases H.out with he | ⟨bk, off, rfl, hbk, hc⟩
      · rw [he] at hkl; simp at hkl
      obtain ⟨t, Ht⟩ : ∃ t, Hid (t = l[k].text) := ⟨_, Lib.hid rfl⟩
      have hc3 := (hc k hkl).2.2.2.1
      rw [← Ht.out] at hc3
      have htz : t.size ≤ 9223372036854775807 := by rw [Ht.out]; exact HZ.out _ (List.getElem_mem _)
      clear hc
      by_cases hbig : 100 < t.size
      · have hb1 : (100 : Int) < t.size := by omega
        have HF : Hid (r = false) := Lib.hid (by
          rw [Hr.out]
          cases hh : okB l
          · rfl
          · have := (okB_iff.1 hh).1 _ (List.getElem_mem hkl); rw [← Ht.out] at this; omega)
        go_wp2
        go_ret
        exact ⟨ret_bool (by rw [HF.out]), rfl⟩
      · have hb1 : ¬ (100 : Int) < t.size := by omega
        have HK2 : Hid (∀ j, (hj : j < l.length) → j < k + 1 → l[j].text.size ≤ 100) := Lib.hid fun j hj hlt2 => by
          by_cases e : j = k
          · subst e; rw [← Ht.out]; omega
          · exact HK.out j hj (by omega)
        go_wp2
        go_round
        case rel => exact ⟨k + 1, by omega, by go_num, HK2⟩
        case measure => simp [intOf]; omega
    · obtain rfl : k = n := by omega
      have HE : Hid (r = decide ((k : Int) ≤ 60)) := Lib.hid (by
        rw [Hr.out]
        unfold okB
        have h1 : l.all shortB = true := by
          rw [List.all_eq_true]
          intro a ha
          obtain ⟨j, hj, rfl⟩ := List.getElem_of_mem ha
          exact decide_eq_true (HK.out j hj (by rw [Hn.out]; exact hj))
        rw [h1, Bool.true_and, ← Hn.out]
        exact decide_eq_decide.2 (by omega))
      go_wp2
      go_ret
      exact ⟨ret_bool (by rw [HE.out] <;> rfl), rfl⟩

theorem grown_of_below {w w' : World} (h : Below w.heap.size w w') (row : Option Nat) : w.grownBy w' row := ⟨h.os, h.tape, h.output, h.size, fun k hk _ => h.block k hk⟩
theorem bytes_ne {s t : ByteArray} (h : ¬ s = t) : (s.toList == t.toList) = false :=
  beq_eq_false_iff_ne.2 (by rw [ByteArray.toList_eq, ByteArray.toList_eq]; exact fun e => h (by apply ByteArray.ext; apply Array.ext'; exact e))
theorem info_str : (Try.prog.info? 9).map (fun i => (i.zero, i.size, i.bytes)) = some (some (.string ⟨#[]⟩), 1, 16) := by kernel_rfl

section
variable {n : Nat} {W W' : World} {b bs : Nat} {pv : Value} {D : Dsk.Dk}

theorem seen_size (h : Dsk.ok n D) {s : Nat} (hs : s < n) : (Dsk.seen D s).size = 64 := by
  unfold Dsk.seen
  split
  · rename_i t ht
    unfold Dsk.lastP at ht
    rw [Option.map_eq_some_iff] at ht
    obtain ⟨p, hp, rfl⟩ := ht
    exact (h.pd p (List.mem_reverse.1 (List.mem_of_find?_eq_some hp))).2
  · show (Dsk.bytes D.st s).toArray.size = 64
    rw [List.size_toArray]
    exact bytes_len h.st hs

/-- The contents of the first k sectors. -/
def seenL (D : Dsk.Dk) (k : Nat) : List ByteArray := (List.range k).map (Dsk.seen D)
def seenV (D : Dsk.Dk) (k : Nat) : List Value := (seenL D k).map .string
theorem seenL_len (D : Dsk.Dk) (k : Nat) : (seenL D k).length = k := by simp [seenL]
theorem seenV_succ (D : Dsk.Dk) (k : Nat) : seenV D (k + 1) = seenV D k ++ [.string (Dsk.seen D k)] := by simp [seenV, seenL, List.range_succ]
/-- A row of texts of the call's own. -/
def SRow (W : World) (g : Nat) (ss : List ByteArray) : Prop := g < W.heap.size ∧ ∀ j, (h : j < ss.length) → W.cell? ⟨g, j, none⟩ = some (.string ss[j]) ∧ W.frozen? ⟨g, j, none⟩ = false
theorem SRow.strs {W : World} {g : Nat} {ss : List ByteArray} (h : SRow W g ss) : IsStrs W (some ⟨g, 0, none⟩) ss := Or.inr ⟨g, 0, rfl, h.1, fun j hj => by rw [Nat.zero_add]; exact (h.2 j hj).1⟩
theorem SRow.kept {W W' : World} {F : Nat → Prop} {g : Nat} {ss : List ByteArray} (h : SRow W g ss) (ho : Only F W W') (hf : ¬ F g) : SRow W' g ss := by
  have hb := ho.block g h.1 hf
  exact ⟨Nat.lt_of_lt_of_le h.1 ho.size, fun j hj => ⟨by rw [World.cell?_of_block (w := W) (a := ⟨g, j, none⟩) hb]; exact (h.2 j hj).1, by rw [World.frozen?_of_block (w := W) (a := ⟨g, j, none⟩) hb]; exact (h.2 j hj).2⟩⟩
theorem SRow.below {W W' : World} {g : Nat} {ss : List ByteArray} (h : SRow W g ss) (hb : Below W.heap.size W W') : SRow W' g ss := h.kept (Only.of_below (fun _ => False) hb) (fun hh => hh)
theorem SRow.set {W : World} {g : Nat} {ss : List ByteArray} (h : SRow W g ss) {k : Nat} (hk : k < ss.length) (t : ByteArray) : SRow (W.setCell ⟨g, k, none⟩ (.string t)) g (ss.set k t) := by
  refine ⟨by simpa using h.1, fun j hj => ⟨?_, by rw [World.frozen?_setCell]; exact (h.2 j (by simpa using hj)).2⟩⟩
  rw [List.getElem_set]
  by_cases e : k = j
  · subst e
    rw [if_pos rfl, World.cell?_setCell_same _ _ _ (h.2 k hk).1]
  · rw [if_neg e, World.cell?_setCell_other _ _ _ _ (by simp [e])]
    exact (h.2 j (by simpa using hj)).1
def ContPost (n : Nat) (W : World) (D : Dsk.Dk) (e : Ending) (w' : World) : Prop := ∃ g cap, e = .returned (.tuple #[.slice (some ⟨g, 0, none⟩) n cap, .bool true]) ∧ Below W.heap.size W w' ∧ W.heap.size ≤ g ∧ SRow w' g (seenL D n)

theorem strs_of_row {base g cap k : Nat} {ss : List ByteArray} (h : W.ownsRow base 9 1 (.slice (some ⟨g, 0, none⟩) k cap) k (ss.map .string)) (hk : ss.length = k) (hg : g < W.heap.size) : SRow W g ss := by
  refine ⟨hg, fun j hj => ⟨?_, h.frozenAt _⟩⟩
  rw [h.cellAt j (by omega), List.getElem?_map, List.getElem?_eq_getElem hj]
  rfl

set_option maxHeartbeats 1000000 in
theorem contents_on (h : IsDisk n W b bs pv D) (ho : D.off = false) : Calls Try.prog 22 #[.pointer (some ⟨b, 0, none⟩), .int .i64 n] W (ContPost n W D) := by
  obtain ⟨i1, hi1, hy0, hy1, hy2⟩ := info_parts info_str
  have H := Lib.hid h
  have HO := Lib.hid ho
  have hn : (n : Int) ≤ 8000 := by have := h.ok.n2; omega
  have hn1 := h.ok.n1
  clear h ho
  go_enter Try.func22, Try.ntmps22
  go_wp2
  go_loopw [6, 7] (fun v i wr => ∃ k : Nat, k ≤ n ∧ i = .int .i64 k ∧ Hid (Below W.heap.size W wr ∧ wr.ownsRow W.heap.size 9 1 v k (seenV D k))) (fun _ i _ => n - (intOf i).toNat)
  case atStart => exact ⟨0, by omega, rfl, Lib.hid ⟨Below.refl _ _, World.ownsRow_nil _ _ _ _⟩⟩
  case round =>
    obtain ⟨k, hk, rfl, HR⟩ := hrel
    by_cases hlt : k < n
    · have hlt' : (k : Int) < n := by omega
      have hsz := seen_size H.out.ok hlt
      have HC := Lib.hid (read_good (H.out.grown HR.out.1) HO.out k hlt)
      obtain ⟨S, HS⟩ : ∃ S, Hid (S = Dsk.seen D k) := ⟨_, Lib.hid rfl⟩
      rw [← HS.out] at hsz HC
      have hs1 : ((S.size : Int) != 64) = false := by simp; omega
      clear hsz
      go_wp2_with fail
      refine HC.out.mono ?_
      rintro e w1 ⟨rfl, hb⟩
      have HB1 := Lib.hid (below_step HR.out.1 hb)
      have HW1 := Lib.hid (HR.out.2.kept (grown_of_below hb none) (Classical.em _))
      have hw1 := HB1.out.size
      clear hb
      have HN : Hid (∀ (i : Nat) (u : Value), [Value.string S][i]? = some u → (w1.alloc (.cells #[.string S] 9)).cell? ((⟨w1.heap.size, 0, none⟩ : Addr).add i) = some u) := Lib.hid (by
        intro i u hu
        have e : (⟨w1.heap.size, 0, none⟩ : Addr).add i = ⟨w1.heap.size, i, none⟩ := by unfold Addr.add; split <;> simp_all
        rw [e, cell_alloc, if_pos rfl]
        simpa using hu)
      go_wp2_with (at_builtin; refine wpList_append_own _ rfl _ _ 39 rfl W.heap.size 9 i1 (.string ⟨#[]⟩) 1 16 Try.underlying39 hi1 hy0 hy1 hy2 rfl (by decide) _ _ _ rfl (HW1.out.alloc _) ⟨w1.heap.size, 0, none⟩ 1 1 [.string S] rfl rfl HN.out (by simp [Value.oneCell']) (by unfold maxLen; omega) (by omega) (by rw [size_alloc]; omega) ?_; intro v' w2 hown hgrow _; have HW2 := Lib.hid hown; have HG2 := Lib.hid hgrow; clear hown hgrow)
      go_roundw
      case rel =>
        refine ⟨k + 1, by omega, by go_num, Lib.hid ⟨?_, ?_⟩⟩
        · exact (HB1.out.alloc HB1.out.size _).grown HG2.out (by rw [size_alloc]; omega) (fun j e => (HW1.out.lt j e).1)
        · rw [seenV_succ, ← HS.out]
          exact HW2.out
      case measure => simp [intOf]; omega
    · obtain rfl : k = n := by omega
      go_wp2
      go_ret2
      obtain ⟨m, rfl⟩ : ∃ m, k = m + 1 := ⟨k - 1, by omega⟩
      have ho2 := HR.out.2
      obtain ⟨g, cap, rfl⟩ := owns_succ ho2
      exact ⟨g, cap, rfl, HR.out.1, (ho2.lt g rfl).1, strs_of_row ho2 (seenL_len D _) (ho2.lt g rfl).2⟩

theorem same_any (ao bo : Option Addr) (ss tt : List ByteArray) (c1 c2 : Nat) (w : World) (h1 : IsStrs w ao ss) (h2 : IsStrs w bo tt) (hn1 : ss.length ≤ 140737488351232) (hn2 : tt.length ≤ 140737488351232) :
    Calls Try.prog 27 #[.slice ao ss.length c1, .slice bo tt.length c2] w fun e w' => e = .returned (.bool (decide (ss = tt))) ∧ Below w.heap.size w w' := by
  obtain ⟨n, Hn⟩ : ∃ n, Hid (n = ss.length) := ⟨_, Lib.hid rfl⟩
  obtain ⟨m, Hm⟩ : ∃ n, Hid (n = tt.length) := ⟨_, Lib.hid rfl⟩
  obtain ⟨r, Hr⟩ : ∃ r, Hid (r = decide (ss = tt)) := ⟨_, Lib.hid rfl⟩
  have H1 := Lib.hid h1
  have H2 := Lib.hid h2
  clear h1 h2
  rw [← Hn.out] at hn1 ⊢
  rw [← Hm.out] at hn2 ⊢
  rw [← Hr.out]
  by_cases hne : (n : Int) = m
  · have hnm : n = m := by omega
    have hle : ¬ n < m := by omega
    have Hnm := Lib.hid hnm
    have hbne : ((n : Int) != m) = false := by simp [hnm]
    clear hne hnm
    go_enter Try.func27, Try.ntmps27
    go_wp2
    go_loopw [5] (fun i wr => ∃ k : Nat, k ≤ n ∧ i = .int .i64 k ∧ Hid (∀ j, (h1 : j < ss.length) → (h2 : j < tt.length) → j < k → ss[j] = tt[j]) ∧ Hid (Below w.heap.size w wr)) (fun i _ => n - (intOf i).toNat)
    case atStart => exact ⟨0, Nat.zero_le _, rfl, Lib.hid fun j _ _ h => absurd h (Nat.not_lt_zero _), Lib.hid (Below.refl _ _)⟩
    case round =>
      obtain ⟨k, hk, rfl, Hall, HB⟩ := hrel
      by_cases hlt : k < n
      · have hks : k < ss.length := by rw [← Hn.out]; exact hlt
        have hkt : k < tt.length := by rw [← Hm.out, ← Hnm.out]; exact hlt
        have hkm : k < m := by rw [Hm.out]; exact hkt
        have hk1 : (k : Int) < n := by omega
        have hk2 : (k : Int) < m := by omega
        rcases H1.out with he | ⟨b1, o1, rfl, hb1, hc1⟩
        · subst he; exact absurd hks (by simp)
        rcases H2.out with he | ⟨b2, o2, rfl, hb2, hc2⟩
        · subst he; exact absurd hkt (by simp)
        obtain ⟨s, Hs⟩ : ∃ s, Hid (s = ss[k]'hks) := ⟨_, Lib.hid rfl⟩
        obtain ⟨t, Ht⟩ : ∃ s, Hid (s = tt[k]'hkt) := ⟨_, Lib.hid rfl⟩
        have hck : wr.cell? ⟨b1, o1 + k, none⟩ = some (.string s) := by rw [HB.out.cell (p := ⟨b1, o1 + k, none⟩) hb1, hc1 k hks, Hs.out]
        have hdk : wr.cell? ⟨b2, o2 + k, none⟩ = some (.string t) := by rw [HB.out.cell (p := ⟨b2, o2 + k, none⟩) hb2, hc2 k hkt, Ht.out]
        have l1 := lt_of_cell hck
        have l2 := lt_of_cell hdk
        have p1 : ∀ X : Grown wr, X.w.cell? ⟨b1, o1 + k, none⟩ = some (.string s) := fun X => by rw [X.cell l1, hck]
        have p2 : ∀ X : Grown wr, X.w.cell? ⟨b2, o2 + k, none⟩ = some (.string t) := fun X => by rw [X.cell l2, hdk]
        clear hc1 hc2 hck hdk
        by_cases hst : s = t
        · have hq : (s.toList == t.toList) = true := by rw [hst]; simp
          have Hst := Lib.hid hst
          clear hst
          go_wp2_with fail
          refine wp_region_grown (by kernel_rfl) (by kernel_rfl) ?_
          repeat (go_big_quiet_step (fail))
          refine wpQuiet_nil ?_
          rintro _ ⟨X, rfl⟩
          go_wp2
          go_roundw
          case rel =>
            refine ⟨k + 1, by omega, by go_num, Lib.hid fun j h1 h2 h3 => ?_, Lib.hid (below_step HB.out X.below)⟩
            by_cases e : j = k
            · subst e; rw [← Hs.out, ← Ht.out]; exact Hst.out
            · exact Hall.out j h1 h2 (by omega)
          case measure => simp [intOf]; omega
        · have hq : (s.toList == t.toList) = false := bytes_ne hst
          have Hbad : Hid (r = false) := Lib.hid (by
            rw [Hr.out]
            refine decide_eq_false fun e => hst ?_
            rw [Hs.out, Ht.out]
            simp [e])
          clear hst
          go_wp2_with fail
          refine wp_region_grown (by kernel_rfl) (by kernel_rfl) ?_
          repeat (go_big_quiet_step (fail))
          refine wpQuiet_nil ?_
          rintro _ ⟨X, rfl⟩
          go_wp2
          go_ret
          exact ⟨ret_bool (by rw [Hbad.out]), below_step HB.out X.below⟩
      · have Hend : Hid (r = true) := Lib.hid (by
          rw [Hr.out]
          exact decide_eq_true (List.ext_getElem (by rw [← Hn.out, ← Hm.out, Hnm.out]) fun j h1 h2 => Hall.out j h1 h2 (by have := Hn.out; omega)))
        go_wp2
        go_ret
        exact ⟨ret_bool (by rw [Hend.out]), HB.out⟩
  · have Hbad : Hid (r = false) := Lib.hid (by rw [Hr.out]; exact decide_eq_false fun e => hne (by rw [Hn.out, Hm.out, e]))
    have hbne : ((n : Int) != m) = true := by simp [hne]
    clear hne
    go_enter Try.func27, Try.ntmps27
    go_wp2
    go_ret
    exact ⟨ret_bool (by rw [Hbad.out]), Below.refl _ _⟩
end

end Go.Proofs.Ytenddmcepfkbaaa
