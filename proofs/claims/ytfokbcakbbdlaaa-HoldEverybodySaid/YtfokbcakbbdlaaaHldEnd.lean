/- The deferred end of All: the list is collected. -/
import Derived.Test.YtfokbcakbbdlaaaHldInv
import Derived.Test.YtfokbcakbbdlaaaQuietTail
import Derived.Defers
import Derived.Deep.AppendLies
import Derived.Deep.RegionLaw
namespace Go.Proofs.Ytfokbcakbbdlaaa
open Go.RowKit
open Hld (Rc Hd)

theorem PMap.of_block {w w' : World} {b n : Nat} {f : ByteArray → Option Nat} (h : PMap w b n f) (hb : w'.heap[b]? = w.heap[b]?) : PMap w' b n f := by
  obtain ⟨D, ⟨es, clock, h1, r⟩, h2⟩ := h
  exact ⟨D, ⟨es, clock, hb.trans h1, r⟩, h2⟩
theorem owns_shape {w : World} {b : Nat} {e : TypeId} {size n : Nat} {v : Value} {xs : List Value} (h : w.ownsRow b e size v n xs) : ∃ ao cap, v = .slice ao n cap := by
  rcases h.2 with ⟨rfl, rfl⟩ | ⟨g, cap, cur, rfl, _⟩
  · exact ⟨none, 0, rfl⟩
  · exact ⟨_, _, rfl⟩
theorem owns_cap {w : World} {b : Nat} {e : TypeId} {size n : Nat} {ao : Option Addr} {cap : Nat} {xs : List Value} (h : w.ownsRow b e size (.slice ao n cap) n xs) : n ≤ cap := by
  rcases h.2 with ⟨h1, rfl⟩ | ⟨g, cap', cur, h1, _, _, h2, _⟩
  · omega
  · injection h1 with _ _ h1; omega
theorem cell_far {w0 wr : World} {N g o : Nat} (h : ∀ b, b < w0.heap.size → b ≠ N → wr.heap[b]? = w0.heap[b]?) (h1 : g < w0.heap.size) (h2 : g ≠ N) : wr.cell? ⟨g, o, none⟩ = w0.cell? ⟨g, o, none⟩ := by
  unfold World.cell?
  rw [h g h1 h2]
/-- A hold in memory. -/
def IsHold (W : World) (b off : Nat) (h : Hd) : Prop :=
  W.cell? ⟨b, off, none⟩ = some (.string h.id) ∧ W.cell? ⟨b, off + 1, none⟩ = some (.string h.vehicle) ∧
    ∃ mo mc bo bc, W.cell? ⟨b, off + 2, none⟩ = some (.slice mo h.members.length mc) ∧ W.cell? ⟨b, off + 3, none⟩ = some (.slice bo h.back.length bc) ∧ IsInts W mo h.members ∧ IsInts W bo h.back
theorem IsHold.below {W W' : World} {b off : Nat} {h : Hd} (hh : IsHold W b off h) (hb : Below W.heap.size W W') : IsHold W' b off h := by
  have hl := lt_of_cell hh.1
  obtain ⟨h1, h2, mo, mc, bo, bc, h3, h4, h5, h6⟩ := hh
  exact ⟨(cell_below hb hl).trans h1, (cell_below hb hl).trans h2, mo, mc, bo, bc, (cell_below hb hl).trans h3, (cell_below hb hl).trans h4, h5.below hb, h6.below hb⟩
def IsHolds (W : World) (ao : Option Addr) (l : List Hd) : Prop :=
  l = [] ∨ ∃ bk off, ao = some ⟨bk, off, none⟩ ∧ bk < W.heap.size ∧ ∀ k, (h : k < l.length) → IsHold W bk (off + k * 4) l[k]
theorem IsHolds.below {W W' : World} {ao : Option Addr} {l : List Hd} (h : IsHolds W ao l) (hb : Below W.heap.size W W') : IsHolds W' ao l := by
  rcases h with h | ⟨bk, off, h1, h2, h3⟩
  · exact Or.inl h
  · exact Or.inr ⟨bk, off, h1, Nat.lt_of_lt_of_le h2 hb.size, fun k hk => (h3 k hk).below hb⟩
theorem IsHolds.at {W : World} {ao : Option Addr} {l : List Hd} (h : IsHolds W ao l) {k : Nat} (hk : k < l.length) : ∃ bk off, ao = some ⟨bk, off, none⟩ ∧ bk < W.heap.size ∧ IsHold W bk (off + k * 4) l[k] := by
  rcases h with h | ⟨bk, off, h1, h2, h3⟩
  · subst h; simp at hk
  · exact ⟨bk, off, h1, h2, h3 k hk⟩

def hoC (o : Ho) : List Value := [.string o.hd.id, .string o.hd.vehicle, o.mv, o.bv]
def hoCs (os : List Ho) : List Value := os.flatMap hoC
theorem hoCs_len (os : List Ho) : (hoCs os).length = os.length * 4 := by
  induction os with
  | nil => rfl
  | cons o os ih => show (hoC o ++ hoCs os).length = _; rw [List.length_append, ih]; simp [hoC]; omega
theorem hoCs_at : ∀ (os : List Ho) (j : Nat) (hj : j < os.length) (i : Nat), i < 4 → (hoCs os)[j * 4 + i]? = (hoC os[j])[i]?
  | o :: os, 0, _, i, hi => by
    show (hoC o ++ hoCs os)[0 * 4 + i]? = _
    rw [List.getElem?_append_left (by simp [hoC]; omega)]
    simp
  | o :: os, j + 1, hj, i, hi => by
    have ih := hoCs_at os j (by simpa using hj) i hi
    show (hoC o ++ hoCs os)[(j + 1) * 4 + i]? = _
    rw [List.getElem?_append_right (by simp [hoC]; omega)]
    have : (j + 1) * 4 + i - (hoC o).length = j * 4 + i := by simp [hoC]; omega
    rw [this, ih]
    rfl
/-- What has been collected so far. -/
structure EndI (W w0 : World) (N : Nat) (os : List Ho) (k : Nat) (ao : Option Addr) (cap : Nat) (wr : World) : Prop where
  far : ∀ b, b < w0.heap.size → b ≠ N → wr.heap[b]? = w0.heap[b]?
  low : Below W.heap.size W wr
  res : Whole wr N 26 #[.slice ao k cap]
  row : wr.ownsRow w0.heap.size 31 4 (.slice ao k cap) k (hoCs (os.take k))
  siz : w0.heap.size ≤ wr.heap.size
theorem ints_far {w0 wr : World} {N : Nat} {ao : Option Addr} {zs : List Int} {B c : Nat} (h : ∀ b, b < w0.heap.size → b ≠ N → wr.heap[b]? = w0.heap[b]?) (hs : w0.heap.size ≤ wr.heap.size) (hN : Whole w0 N 26 #[.slice none 0 0]) (hr : w0.ownsRow B 3 1 (.slice ao zs.length c) zs.length (intsC zs)) : IsInts wr ao zs := by
  rcases ints_of_row hr with h0 | ⟨bk, off, rfl, h1, h2⟩
  · exact Or.inl h0
  · rcases hr.2 with ⟨hv, _⟩ | ⟨g, cap', cur, hv, _, hc, _⟩
    · cases hv
    · injection hv with hv
      injection hv with hv
      injection hv with hv _
      subst hv
      have hne : bk ≠ N := (show Whole w0 bk 3 cur from hc).apart hN (by decide)
      exact Or.inr ⟨bk, off, rfl, by omega, fun k hk => (cell_far h h1 hne).trans (h2 k hk)⟩
theorem end_holds {W w0 wr : World} {N Nm No bm : Nat} {os : List Ho} {ov : Value} {ids : List ByteArray} {ao : Option Addr} {cap : Nat} (h0 : HInv W N Nm No bm os ov ids w0) (h : EndI W w0 N os os.length ao cap wr) : IsHolds wr ao (os.map (·.hd)) := by
  by_cases hn : os = []
  · subst hn; exact Or.inl rfl
  have hpos : 0 < os.length := List.length_pos_iff.2 hn
  have hr := h.row
  rw [List.take_length] at hr
  rcases hr.2 with ⟨_, h1⟩ | ⟨g, cap', cur, hv, hB, hc, _, _, _, htk⟩
  · omega
  · injection hv with hv
    subst hv
    have hw : Whole wr g 31 cur := hc
    refine Or.inr ⟨g, 0, rfl, hw.lt, fun k hk => ?_⟩
    rw [List.length_map] at hk
    rw [List.getElem_map]
    have hcell : ∀ i v, i < 4 → (hoC os[k])[i]? = some v → wr.cell? ⟨g, 0 + k * 4 + i, none⟩ = some v := fun i v hi hv => by
      rw [hw.cell, ← Array.getElem?_toList, Nat.zero_add]
      have h3 := hoCs_at os k hk i hi
      rw [hv, ← htk, List.getElem?_take_of_lt (by omega)] at h3
      exact h3
    have ho := h0.here _ (List.getElem_mem hk)
    obtain ⟨mo, mc, hm⟩ := owns_shape ho.mem
    obtain ⟨bo, bc, hb⟩ := owns_shape ho.back
    have r1 := ho.mem
    have r2 := ho.back
    rw [hm] at r1
    rw [hb] at r2
    exact ⟨hcell 0 _ (by omega) rfl, hcell 1 _ (by omega) rfl, mo, mc, bo, bc, hcell 2 _ (by omega) (by rw [← hm]; rfl), hcell 3 _ (by omega) (by rw [← hb]; rfl), ints_far h.far h.siz h0.res r1, ints_far h.far h.siz h0.res r2⟩
theorem info_hold : (Try.prog.info? 31).map (fun i => (i.zero, i.size, i.bytes)) = some (some (.agg #[.string ⟨#[]⟩, .string ⟨#[]⟩, .slice none 0 0, .slice none 0 0]), 4, 80) := by kernel_rfl
theorem strs_of_row {w : World} {B : Nat} {ao : Option Addr} {ss : List ByteArray} {c : Nat} (h : w.ownsRow B 9 1 (.slice ao ss.length c) ss.length (strC ss)) : IsStrs w ao ss := by
  rcases h.2 with ⟨h1, h0⟩ | ⟨g, cap, cur, hv, hB, hc, _, _, _, htk⟩
  · exact Or.inl (List.eq_nil_of_length_eq_zero h0)
  · injection hv with hv
    subst hv
    refine Or.inr ⟨g, 0, rfl, (Array.getElem?_eq_some_iff.1 hc).1, fun k hk => ?_⟩
    have hw : Whole w g 9 cur := hc
    rw [Nat.zero_add, hw.cell, ← Array.getElem?_toList]
    have h3 : (strC ss)[k]? = some (.string ss[k]) := by unfold strC; rw [List.getElem?_map, List.getElem?_eq_getElem hk]; rfl
    rw [← htk, List.getElem?_take_of_lt (by omega)] at h3
    exact h3

set_option maxRecDepth 100000 in
set_option maxHeartbeats 8000000 in
theorem all1_any (W w0 : World) (N Nm No bm : Nat) (os : List Ho) (ov : Value) (hinv : HInv W N Nm No bm os ov (os.map (·.hd.id)) w0) (hid : Hld.Apart (os.map (·.hd))) (hsz : ∀ o ∈ os, o.hd.id.size ≤ 9223372036854775807) (hlen : os.length ≤ 1000000) (u : FrameMode) :
    CallsD Try.prog 22 #[.pointer (some ⟨No, 0, none⟩), .pointer (some ⟨N, 0, none⟩), .pointer (some ⟨Nm, 0, none⟩)] u w0 fun e u' w' => u' = u ∧ (e = .returned (.tuple #[]) ∧ ∃ ao cap, EndI W w0 N os os.length ao cap w') := by
  obtain ⟨i1, hi1, hy0, hy1, hy2⟩ := info_parts info_hold
  obtain ⟨oo, oc, rfl⟩ := owns_shape hinv.row
  have HI0 := Lib.hid hinv
  have HId := Lib.hid hid
  have HSz := Lib.hid hsz
  have hO : w0.cell? ⟨No, 0, none⟩ = some (.slice oo (os.map (·.hd.id)).length oc) := hinv.ord.cell 0
  have HStr := Lib.hid (strs_of_row hinv.row)
  obtain ⟨n, Hn⟩ : ∃ n, Hid (n = os.length) := ⟨_, Lib.hid rfl⟩
  have HnL : Hid ((os.map (·.hd.id)).length = n) := Lib.hid (by rw [List.length_map, Hn.out])
  rw [HnL.out] at hO
  rw [← Hn.out] at hlen
  rw [← Hn.out]
  clear hinv hid hsz
  go_enter_d Try.func22, Try.ntmps22
  go_wp2_with fail
  go_loopw [7] (fun i wr => ∃ (k : Nat) (ao : Option Addr) (cap : Nat), k ≤ n ∧ i = .int .i64 k ∧ Hid (EndI W w0 N os k ao cap wr)) (fun i _ => n - (intOf i).toNat)
  case atStart =>
    refine ⟨0, none, 0, Nat.zero_le _, by go_num, Lib.hid ⟨fun _ _ _ => rfl, HI0.out.low, HI0.out.res, ?_, Nat.le_refl _⟩⟩
    rw [List.take_zero]
    exact World.ownsRow_nil _ _ _ _
  case round =>
    obtain ⟨k, ao, cap, hk, rfl, HR⟩ := hrel
    by_cases hkn : k < n
    · have hd : decide ((k : Int) < n) = true := decide_eq_true (by omega)
      have hb0 : (0 : Int) ≤ k := by omega
      have hb1 : (k : Int) < n := by omega
      have hko : k < os.length := by rw [← Hn.out]; exact hkn
      obtain ⟨bo, off, rfl, hbo, hc⟩ := HStr.out.at (show k < (os.map (·.hd.id)).length by rw [HnL.out]; exact hkn)
      rw [List.getElem_map] at hc
      obtain ⟨s, Hs⟩ : ∃ s, Hid (s = os[k].hd.id) := ⟨_, Lib.hid rfl⟩
      rw [← Hs.out] at hc
      have hboN : bo ≠ N := by
        rcases HI0.out.row.2 with ⟨hv, _⟩ | ⟨g, cap', cur, hv, _, hc', _⟩
        · cases hv
        · injection hv with hv
          injection hv with hv
          injection hv with hv _
          subst hv
          exact (show Whole w0 bo 9 cur from hc').apart HI0.out.res (by decide)
      replace hc := (cell_far HR.out.far hbo hboN).trans hc
      have ho := HI0.out.here _ (List.getElem_mem hko)
      have hgN : os[k].g ≠ N := ho.cell.apart HI0.out.res (by decide)
      obtain ⟨g, Hg⟩ : ∃ g, Hid (g = os[k].g) := ⟨_, Lib.hid rfl⟩
      obtain ⟨ve, Hve⟩ : ∃ v, Hid (v = os[k].hd.vehicle) := ⟨_, Lib.hid rfl⟩
      obtain ⟨mo, mc, hmv⟩ := owns_shape ho.mem
      obtain ⟨bo', bc, hbv⟩ := owns_shape ho.back
      obtain ⟨ml, Hml⟩ : ∃ v, Hid (v = os[k].hd.members.length) := ⟨_, Lib.hid rfl⟩
      obtain ⟨bl, Hbl⟩ : ∃ v, Hid (v = os[k].hd.back.length) := ⟨_, Lib.hid rfl⟩
      rw [← Hml.out] at hmv
      rw [← Hbl.out] at hbv
      have HoC : Hid (hoCs (os.take (k + 1)) = hoCs (os.take k) ++ [.string s, .string ve, .slice mo ml mc, .slice bo' bl bc]) := Lib.hid (by
        rw [List.take_succ_eq_append_getElem hko]
        unfold hoCs
        rw [List.flatMap_append, Hs.out, Hve.out, ← hmv, ← hbv]
        simp [hoC])
      have hcw : Whole w0 g 31 #[.string s, .string ve, .slice mo ml mc, .slice bo' bl bc] := by rw [Hs.out, Hve.out, ← hmv, ← hbv, Hg.out]; exact ho.cell
      rw [← Hg.out] at hgN
      have z0 : wr.cell? ⟨g, 0, none⟩ = some (.string s) := (cell_far HR.out.far hcw.lt hgN).trans (hcw.cell 0)
      have z1 : wr.cell? ⟨g, 1, none⟩ = some (.string ve) := (cell_far HR.out.far hcw.lt hgN).trans (hcw.cell 1)
      have z2 : wr.cell? ⟨g, 2, none⟩ = some (.slice mo ml mc) := (cell_far HR.out.far hcw.lt hgN).trans (hcw.cell 2)
      have z3 : wr.cell? ⟨g, 3, none⟩ = some (.slice bo' bl bc) := (cell_far HR.out.far hcw.lt hgN).trans (hcw.cell 3)
      have hNl : N < w0.heap.size := HI0.out.res.lt
      have hvar : wr.cell? ⟨Nm, 0, none⟩ = some (.map (some bm)) := (cell_far HR.out.far HI0.out.var.lt (HI0.out.var.apart HI0.out.res (by decide))).trans (HI0.out.var.cell 0)
      have hres : wr.cell? ⟨N, 0, none⟩ = some (.slice ao k cap) := HR.out.res.cell 0
      have hfr := HR.out.res.frozen 0
      have hfind : findG os s = some g := by
        unfold findG
        have h1 := Hld.find_at HId.out (j := k) (by rw [List.length_map]; exact hko)
        rw [List.getElem_map] at h1
        unfold Hld.find at h1
        rw [List.findIdx?_map] at h1
        rw [Hs.out, Hg.out]
        have h2 := List.findIdx?_eq_some_iff_getElem.1 h1
        obtain ⟨h3, h4, h5⟩ := h2
        have : os.find? (fun o => decide (o.hd.id = os[k].hd.id)) = some os[k] := by
          rw [List.find?_eq_some_iff_getElem]
          refine ⟨by simp, k, hko, rfl, fun j hj => ?_⟩
          have := h5 j hj
          simpa using this
        rw [this]; rfl
      have hPM : PMap wr.drew bm os.length (findG os) := HI0.out.map.of_block (HR.out.far bm HI0.out.map.lt (HI0.out.map.ne HI0.out.res))
      have hLk := hPM.look (s := s) (by have := HSz.out _ (List.getElem_mem hko); rw [Hs.out]; exact this)
      rw [hfind] at hLk
      unfold ptrOf at hLk
      simp only [Option.map_some] at hLk
      have hws := HR.out.siz
      have y1 : (wr.alloc (.cells #[.string s, .string ve, .slice mo ml mc, .slice bo' bl bc] 31)).cell? ⟨N, 0, none⟩ = some (.slice ao k cap) := (HR.out.res.alloc _).cell 0
      have hNs : ∀ (X : World), (X.alloc (.cells #[.string s, .string ve, .slice mo ml mc, .slice bo' bl bc] 31)).heap.size = X.heap.size + 1 := fun X => size_alloc _ _
      have HNw : Hid (∀ (i : Nat) (u : Value), [Value.string s, Value.string ve, Value.slice mo ml mc, Value.slice bo' bl bc][i]? = some u → ((wr.alloc (.cells #[.string s, .string ve, .slice mo ml mc, .slice bo' bl bc] 31)).drew).cell? ((⟨wr.heap.size, 0, none⟩ : Addr).add i) = some u) := Lib.hid (by
        intro i u hu
        have e : (⟨wr.heap.size, 0, none⟩ : Addr).add i = ⟨wr.heap.size, i, none⟩ := by unfold Addr.add; split <;> simp_all
        rw [e, World.cell?_drew, cell_alloc, if_pos rfl]
        simpa using hu)
      have HK : Hid (∀ w10 : World, ((wr.alloc (.cells #[.string s, .string ve, .slice mo ml mc, .slice bo' bl bc] 31)).drew).grownBy w10 (Value.slice ao k cap).ownBlock → Whole w10 N 26 #[.slice ao k cap] ∧ (∀ b, b < w0.heap.size → b ≠ N → w10.heap[b]? = w0.heap[b]?) ∧ Below W.heap.size W w10 ∧ w0.heap.size ≤ w10.heap.size) := Lib.hid (fun w10 hg => by
        have hne : ∀ b, b < w0.heap.size → (Value.slice ao k cap).ownBlock ≠ some b := fun b hb e => by
          have := (HR.out.row.lt b e).1
          omega
        have hsz : (wr.alloc (.cells #[.string s, .string ve, .slice mo ml mc, .slice bo' bl bc] 31)).heap.size = wr.heap.size + 1 := size_alloc _ _
        have hbl : ∀ b, b < w0.heap.size → w10.heap[b]? = wr.heap[b]? := fun b hb => (hg.block b (by show b < (wr.alloc _).heap.size; rw [hsz]; omega) (fun e => hne b hb e.symm)).trans (Below.heap_alloc wr _ b (by omega))
        refine ⟨(hbl N HI0.out.res.lt).trans HR.out.res, fun b hb hbN => (hbl b hb).trans (HR.out.far b hb hbN), ?_, ?_⟩
        · exact (HR.out.low.alloc HR.out.low.size _).drew.grown hg (by show _ ≤ (wr.alloc _).heap.size; rw [hsz]; have := HR.out.low.size; omega) (fun j e => by have := (HR.out.row.lt j e).1; have := HI0.out.low.size; omega)
        · have := hg.size
          have h2 : ((wr.alloc (.cells #[.string s, .string ve, .slice mo ml mc, .slice bo' bl bc] 31)).drew).heap.size = wr.heap.size + 1 := hsz
          omega)
      have HRow : Hid (((wr.alloc (.cells #[.string s, .string ve, .slice mo ml mc, .slice bo' bl bc] 31)).drew).ownsRow w0.heap.size 31 4 (.slice ao k cap) k (hoCs (os.take k))) := Lib.hid (HR.out.row.alloc _).drew
      clear ho hcw hgN hboN hfind hPM hNl hmv hbv
      go_wp2_with fail
      go_region_law (refine step_append_lies _ rfl (.tmp 11) (.tmp 17) 26 rfl w0.heap.size 31 i1 (.agg #[.string ⟨#[]⟩, .string ⟨#[]⟩, .slice none 0 0, .slice none 0 0]) 4 80 Try.underlying26 hi1 hy0 hy1 hy2 rfl (by decide) (.slice ao k cap) k (hoCs (os.take k)) (by simp [Act.eval]) HRow.out ⟨wr.heap.size, 0, none⟩ 1 1 [.string s, .string ve, .slice mo ml mc, .slice bo' bl bc] (by simp [Act.eval]) rfl HNw.out (by simp [Value.oneCell']) (by decide) (by unfold maxLen; omega) (by omega) (by show _ ≤ (wr.alloc _).heap.size; rw [hNs]; omega) _ rfl ?_; intro g' cap' w10 hown hgrow _ _; have HW10 := Lib.hid hown; have hk := HK.out w10 hgrow; have y2 : w10.cell? ⟨N, 0, none⟩ = some (.slice ao k cap) := hk.1.cell 0; have y3 := hk.1.frozen 0; have HK10 := Lib.hid hk; clear hown hgrow hk)
      all_goals
        go_wp2_with fail
        go_round
        case rel =>
          refine ⟨k + 1, some ⟨g', 0, none⟩, cap', by omega, by go_num, Lib.hid ⟨fun b hb hbN => ?_, ?_, ?_, ?_, ?_⟩⟩
          · exact (Below.heap_setCell w10 ⟨N, 0, none⟩ _ b hbN).trans (HK10.out.2.1 b hb hbN)
          · exact HK10.out.2.2.1.setCell (p := ⟨N, 0, none⟩) HI0.out.los.1 _
          · exact HK10.out.1.set 0 _
          · rw [HoC.out]
            exact owns_set HW10.out HK10.out.1 (by decide) _
          · rw [World.size_setCell]; exact HK10.out.2.2.2
        case measure => simp [intOf]; omega
    · obtain rfl : k = n := by omega
      have hd : decide ((k : Int) < k) = false := decide_eq_false (by omega)
      go_wp2_with fail
      go_end0
      exact ⟨rfl, ao, cap, HR.out⟩

end Go.Proofs.Ytfokbcakbbdlaaa
