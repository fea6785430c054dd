/- The walk of the reference's division: the quotients, and the picks of the greatest rests. -/
import Derived.Test.YtijnnfioggjaeaaDoorMonRefC
import Derived.Test.YtijnnfioggjaeaaDoorMonTotal
import Derived.Test.YtijnnfioggjaeaaDoorMonPick
import Derived.Test.YtijnnfioggjaeaaDoorAppApart
import Derived.Test.YtijnnfioggjaeaaDoorTwo
import Derived.Outline
namespace Go.Proofs.YtijnnfioggjaeaaDoor
open Go.RowKit

def qRow (n s : Int) (zs : List Int) (k : Nat) : List Value := (List.range k).map fun j => .int .i64 (partAt n s zs j).q
def rRow (n s : Int) (zs : List Int) (k : Nat) : List Value := (List.range k).map fun j => .int .i64 (partAt n s zs j).r
theorem qRow_succ (n s : Int) (zs : List Int) (k : Nat) : qRow n s zs (k + 1) = qRow n s zs k ++ [.int .i64 (partAt n s zs k).q] := by simp [qRow, List.range_succ]
theorem rRow_succ (n s : Int) (zs : List Int) (k : Nat) : rRow n s zs (k + 1) = rRow n s zs k ++ [.int .i64 (partAt n s zs k).r] := by simp [rRow, List.range_succ]
/-- What the first loop keeps. -/
def RefI (n s : Int) (zs : List Int) (w : World) (k : Nat) (v u : Value) (wr : World) : Prop :=
  Below w.heap.size w wr ∧ wr.ownsRow w.heap.size 3 1 v k (qRow n s zs k) ∧ wr.ownsRow w.heap.size 3 1 u k (rRow n s zs k) ∧ Apart v u
/-- What the picks keep. -/
def PickI (n s : Int) (zs : List Int) (w : World) (g1 g2 t : Nat) (wr : World) : Prop :=
  Below w.heap.size w wr ∧ Row wr g1 (outL n s zs t) ∧ Row wr g2 (leftL n s zs t)
theorem PickI.below {n s : Int} {zs : List Int} {w : World} {g1 g2 t : Nat} {wr wr' : World} (h : PickI n s zs w g1 g2 t wr) (hb : Below wr.heap.size wr wr') : PickI n s zs w g1 g2 t wr' :=
  ⟨below_step h.1 hb, h.2.1.grown (grown_below hb none) (by simp), h.2.2.grown (grown_below hb none) (by simp)⟩
theorem PickI.step {n s : Int} {zs : List Int} {w : World} {g1 g2 t b : Nat} {wr : World} (h : PickI n s zs w g1 g2 t wr) (hb : b < zs.length) (hr : rk n s zs b = t) (hne : g1 ≠ g2) (l1 : w.heap.size ≤ g1) (l2 : w.heap.size ≤ g2) :
    PickI n s zs w g1 g2 (t + 1) ((wr.setCell ⟨g1, b, none⟩ (.int .i64 (outAt n s zs t b + 1))).setCell ⟨g2, b, none⟩ (.int .i64 (-1))) := by
  refine ⟨(h.1.setCell l1 _).setCell l2 _, ?_, ?_⟩
  · have h1 := h.2.1.set (k := b) (by rw [outL_len]; exact hb) (outAt n s zs t b + 1)
    rw [outAt_set hb hr] at h1
    exact h1.grown (grown_set _ _ _ _) (by simpa using hne)
  · have h1 : Row (wr.setCell ⟨g1, b, none⟩ (.int .i64 (outAt n s zs t b + 1))) g2 (leftL n s zs t) := h.2.2.grown (grown_set _ _ _ _) (by simpa using fun e => hne e.symm)
    have h2 := h1.set (k := b) (by rw [leftL_len]; exact hb) (-1)
    rw [leftAt_set hb hr] at h2
    exact h2

/-- The first greatest up to i is b. -/
def Best (n s : Int) (zs : List Int) (t i b : Nat) : Prop := (∀ j, j < i → leftAt n s zs t j ≤ leftAt n s zs t b) ∧ ∀ j, j < b → leftAt n s zs t j < leftAt n s zs t b
theorem Best.start (n s : Int) (zs : List Int) (t : Nat) : Best n s zs t 0 0 := ⟨fun j h => by omega, fun j h => by omega⟩
theorem Best.more {n s : Int} {zs : List Int} {t i b : Nat} (h : Best n s zs t i b) (hx : leftAt n s zs t b < leftAt n s zs t i) : Best n s zs t (i + 1) i :=
  ⟨fun j hj => by
    by_cases e : j = i
    · subst e; exact Int.le_refl _
    · have := h.1 j (by omega); omega, fun j hj => by have := h.1 j hj; omega⟩
theorem Best.same {n s : Int} {zs : List Int} {t i b : Nat} (h : Best n s zs t i b) (hx : ¬ leftAt n s zs t b < leftAt n s zs t i) : Best n s zs t (i + 1) b :=
  ⟨fun j hj => by
    by_cases e : j = i
    · subst e; omega
    · exact h.1 j (by omega), h.2⟩
theorem left_bds {n s : Int} {zs : List Int} (hs : 0 < s) (t j : Nat) : -1 ≤ leftAt n s zs t j ∧ leftAt n s zs t j ≤ s := by
  unfold leftAt
  have h1 := part_r0 (n := n) (zs := zs) hs j
  have h2 : (partAt n s zs j).r < s := Int.emod_lt_of_pos _ hs
  split <;> omega
theorem out_bds {n s : Int} {zs : List Int} (hn : 0 ≤ n ∧ n ≤ 1000000000000) (hz : ∀ z ∈ zs, 0 ≤ z ∧ z ≤ 9999999) (hzs : ∀ z ∈ zs, z ≤ s) (hs : 1 ≤ s) (t j : Nat) (hj : j < zs.length) : 0 ≤ outAt n s zs t j ∧ outAt n s zs t j ≤ 1000000000001 := by
  have hm : zs[j]?.getD 0 ∈ zs := by rw [List.getElem?_eq_getElem hj]; exact List.getElem_mem _
  have := quot_bd hn (hz _ hm) hs (hzs _ hm)
  have h1 : (partAt n s zs j).q = n * (zs[j]?.getD 0) / s := rfl
  unfold outAt
  rw [h1]
  split <;> omega
theorem row_of_owns {W : World} {base g cap len : Nat} {f : Nat → Int} (h : W.ownsRow base 3 1 (.slice (some ⟨g, 0, none⟩) len cap) len ((List.range len).map fun j => .int .i64 (f j))) : Row W g ((List.range len).map f) := by
  intro j hj
  have hj' : j < len := by simpa using hj
  refine ⟨?_, h.frozenAt _⟩
  rw [h.cellAt j (by omega)]
  simp [hj']

set_option maxRecDepth 100000 in
set_option maxHeartbeats 8000000 in
theorem refSplit_good (n s : Int) (zs : List Int) (len : Nat) (hlen : len = zs.length) (hl0 : 1 ≤ len) (hl1 : len ≤ 16) (hn : 0 ≤ n ∧ n ≤ 1000000000000) (hz : ∀ z ∈ zs, 0 ≤ z ∧ z ≤ 9999999) (hsum : s = zs.sum) (hs : 1 ≤ s ∧ s ≤ 159999984) (hzs : ∀ z ∈ zs, z ≤ s) (bk off cap : Nat) (w : World) (hbk : bk < w.heap.size)
    (hc : ∀ j, j < len → w.cell? ⟨bk, off + j, none⟩ = some (.int .i64 (zs[j]?.getD 0)))
    (HT : Hid (Calls Tryd.prog 15 #[.slice (some ⟨bk, off, none⟩) len cap] w fun e w' => e = .returned (.int .i64 s) ∧ w = w'))
    (hA : Mon.amtB n = true) :
    Calls Tryd.prog 7 #[.int .i64 n, .slice (some ⟨bk, off, none⟩) len cap] w
      fun e w' => ∃ g cp, e = .returned (.tuple #[.slice (some ⟨g, 0, none⟩) len cp, .int .i64 0]) ∧ Below w.heap.size w w' ∧ w.heap.size ≤ g ∧ Row w' g (shares n s zs) := by
  obtain ⟨i1, hi1, hy0, hy1, hy2⟩ := info_parts info_int
  have HC := Lib.hid hc
  have HZ := Lib.hid hz
  have HZS := Lib.hid hzs
  have Hlen := Lib.hid hlen
  have hll := left_len (n := n) hsum (by omega)
  rw [← hlen] at hll
  obtain ⟨L, HL⟩ : ∃ L, Hid (L = left n s zs) := ⟨_, Lib.hid rfl⟩
  rw [← HL.out] at hll
  obtain ⟨hL0, hL1⟩ := hll
  have HOB := Lib.hid (fun (t j : Nat) (hj : j < zs.length) => out_bds hn hz hzs hs.1 t j hj)
  clear hc hz hzs hlen hsum
  obtain ⟨n1, n2⟩ := hn
  obtain ⟨s1, s2⟩ := hs
  have s0 : ¬ s < 0 := by omega
  go_enter Tryd.func7, Tryd.ntmps7
  go_wp2_with fail
  refine HT.out.mono ?_
  rintro e w' ⟨rfl, rfl⟩
  go_wp2_with fail
  refine (refIs_any _ _).mono ?_
  rintro e w' ⟨rfl, rfl⟩
  go_wp2
  go_loopw [7, 8, 9, 10] (fun v u r i wr => ∃ (k : Nat) (q : Int), k ≤ len ∧ i = .int .i64 k ∧ r = .int .i64 (n - q) ∧ 0 ≤ q ∧ q ≤ 1000000000000 * k ∧ Hid (q = qsum n s zs k) ∧ Hid (RefI n s zs w k v u wr)) (fun _ _ _ i _ => len - (intOf i).toNat)
  case atStart => exact ⟨0, 0, by omega, rfl, by simp, by omega, by omega, Lib.hid rfl, Lib.hid ⟨Below.refl _ _, World.ownsRow_nil _ _ _ _, World.ownsRow_nil _ _ _ _, fun g hg => by simp [Value.ownBlock] at hg⟩⟩
  case round =>
    obtain ⟨k, q, hk, rfl, rfl, q0, q1, Hq, HI⟩ := hrel
    by_cases hlt : k < len
    · have hkz : k < zs.length := by rw [← Hlen.out]; exact hlt
      obtain ⟨z, Hzd⟩ : ∃ z, Hid (z = zs[k]?.getD 0) := ⟨_, Lib.hid rfl⟩
      have hmem : z ∈ zs := by rw [Hzd.out, List.getElem?_eq_getElem hkz]; exact List.getElem_mem _
      have hzb := HZ.out z hmem
      have zs1 := HZS.out z hmem
      obtain ⟨p0, p1, p2, p3, p4, p5⟩ := quot_bd ⟨n1, n2⟩ hzb s1 zs1
      have hcell : wr.cell? ⟨bk, off + k, none⟩ = some (.int .i64 z) := by rw [HI.out.1.cell (p := ⟨bk, off + k, none⟩) hbk, HC.out k hlt, Hzd.out]
      obtain ⟨y, Hy⟩ : ∃ y, Hid (y = n * z / s) := ⟨_, Lib.hid rfl⟩
      obtain ⟨r, Hr⟩ : ∃ y, Hid (y = n * z % s) := ⟨_, Lib.hid rfl⟩
      have HP : Hid (∀ W, Calls Tryd.prog 22 #[.int .i64 n, .int .i64 z, .int .i64 s] W fun e w' => e = .returned (.tuple #[.int .i64 y, .int .i64 r]) ∧ Below W.heap.size W w') := Lib.hid fun W => by
        rw [Hy.out, Hr.out]; exact refParts_any n z s ⟨n1, n2⟩ hzb ⟨s1, s2⟩ zs1 W
      rw [← Hy.out] at p2 p3
      rw [← Hr.out] at p4 p5
      have hlt' : (k : Int) < len := by omega
      clear hmem p0 p1 hzb zs1
      go_wp2_with fail
      refine (HP.out _).mono ?_
      rintro e W1 ⟨rfl, hb1⟩
      have HB1 := Lib.hid (below_step HI.out.1 hb1)
      have HO := Lib.hid (HI.out.2.1.kept (grown_below hb1 none) (Classical.em _))
      have HU := Lib.hid (HI.out.2.2.1.kept (grown_below hb1 none) (Classical.em _))
      have HAp := Lib.hid HI.out.2.2.2
      have hw1 := HB1.out.size
      clear hb1 hcell
      have HN : Hid (∀ (W : World) (x : Int) (i : Nat) (u : Value), [Value.int .i64 x][i]? = some u → (W.alloc (.cells #[.int .i64 x] 3)).cell? ((⟨W.heap.size, 0, none⟩ : Addr).add i) = some u) := Lib.hid (by
        intro W x i u hu
        have e : (⟨W.heap.size, 0, none⟩ : Addr).add i = ⟨W.heap.size, i, none⟩ := by unfold Addr.add; split <;> simp_all
        rw [e, cell_alloc, if_pos rfl]
        simpa using hu)
      go_wp2_with (first
        | (at_builtin; refine wpList_append_apart rfl (.tmp 41) (.tmp 43) 22 rfl w.heap.size 3 i1 (.int .i64 0) 1 8 Tryd.underlying22 hi1 hy0 hy1 hy2 rfl (by decide) _ _ _ rfl (HO.out.alloc _) ⟨W1.heap.size, 0, none⟩ 1 1 [.int .i64 y] rfl rfl (HN.out _ _) (by simp [Value.oneCell']) (by unfold maxLen; omega) (by omega) (by rw [size_alloc]; omega) ?_; intro v1 w2 hown1 hgrow1 hap1; have HO1 := Lib.hid hown1; have HG1 := Lib.hid hgrow1; have HU1 := Lib.hid (HAp.out.kept (HU.out.alloc _) hgrow1); have HA1 := Lib.hid (HAp.out.step (HU.out.alloc _) hap1); have hw2 := hgrow1.size; clear hown1 hgrow1 hap1)
        | (at_builtin; refine wpList_append_apart rfl (.tmp 45) (.tmp 47) 22 rfl w.heap.size 3 i1 (.int .i64 0) 1 8 Tryd.underlying22 hi1 hy0 hy1 hy2 rfl (by decide) _ _ _ rfl (HU1.out.alloc _) ⟨w2.heap.size, 0, none⟩ 1 1 [.int .i64 r] rfl rfl (HN.out _ _) (by simp [Value.oneCell']) (by unfold maxLen; omega) (by omega) (by rw [size_alloc]; rw [size_alloc] at hw2; omega) ?_; intro v2 w3 hown2 hgrow2 hap2; have HO2 := Lib.hid hown2; have HG2 := Lib.hid hgrow2; have HA2 := Lib.hid hap2; clear hown2 hgrow2 hap2))
      rw [size_alloc] at hw2
      go_roundw
      case rel =>
        have hB2 : Below w.heap.size w w2 := (HB1.out.alloc HB1.out.size _).grown HG1.out (by rw [size_alloc]; omega) (fun j e => ((HO.out.lt j e).1))
        have hB3 : Below w.heap.size w w3 := (hB2.alloc hB2.size _).grown HG2.out (by rw [size_alloc]; omega) (fun j e => ((HU.out.lt j e).1))
        refine ⟨k + 1, q + y, by omega, by go_num, by congr 1; omega, by omega, by omega, Lib.hid ?_, Lib.hid ⟨hB3, ?_, ?_, ?_⟩⟩
        · show q + y = qsum n s zs k + n * (zs[k]?.getD 0) / s
          rw [← Hq.out, ← Hzd.out, ← Hy.out]
        · rw [qRow_succ]
          have e : (partAt n s zs k).q = y := by rw [Hy.out, Hzd.out]; rfl
          rw [e]
          exact HA1.out.symm.kept (HO1.out.alloc _) HG2.out
        · rw [rRow_succ]
          have e : (partAt n s zs k).r = r := by rw [Hr.out, Hzd.out]; rfl
          rw [e]
          exact HO2.out
        · exact (HA1.out.symm.step (HO1.out.alloc _) HA2.out).symm
      case measure => simp [intOf]; omega
    · obtain rfl : len = k := by omega
      obtain ⟨len0, rfl⟩ : ∃ m, len = m + 1 := ⟨len - 1, by omega⟩
      obtain ⟨wp, rfl⟩ : ∃ x, x = wr := ⟨_, rfl⟩
      have ho1 := HI.out.2.1
      have ho2 := HI.out.2.2.1
      obtain ⟨g1, cap1, rfl⟩ := ownsRow_succ' ho1
      obtain ⟨g2, cap2, rfl⟩ := ownsRow_succ' ho2
      have hl1 := ho1.lt g1 rfl
      have hl2 := ho2.lt g2 rfl
      have hne : g1 ≠ g2 := fun e => HI.out.2.2.2 g1 rfl (by rw [e]; rfl)
      have HP0 : Hid (PickI n s zs w g1 g2 0 wp) := Lib.hid ⟨HI.out.1, by rw [outL_zero, ← Hlen.out]; exact row_of_owns ho1, by rw [leftL_zero, ← Hlen.out]; exact row_of_owns ho2⟩
      have hLq : n - q = L := by rw [HL.out, Hq.out]; unfold left; rw [← Hlen.out]
      rw [hLq]
      clear ho1 ho2 hLq
      obtain ⟨l11, l12⟩ := hl1
      obtain ⟨l21, l22⟩ := hl2
      have hne' : g2 ≠ g1 := fun e => hne e.symm
      go_wp2
      go_loopw [9] (fun r wr => ∃ (t : Nat), r = .int .i64 (L - t) ∧ (t : Int) ≤ L ∧ Hid (PickI n s zs w g1 g2 t wr)) (fun r _ => (intOf r).toNat)
      case atStart => exact ⟨0, by simp, by omega, HP0⟩
      case round =>
        obtain ⟨t, rfl, htL, HPt⟩ := hrel
        by_cases htl : (t : Int) < L
        · have hpos : 0 < L - t := by omega
          have htz : t < zs.length := by rw [← Hlen.out]; omega
          obtain ⟨wo, rfl⟩ : ∃ x, x = wr := ⟨_, rfl⟩
          go_wp2
          go_loopw [13, 14] (fun b i wi => ∃ (i' b' : Nat), b = .int .i64 b' ∧ i = .int .i64 i' ∧ i' ≤ len0 + 1 ∧ b' < len0 + 1 ∧ Hid (Best n s zs t i' b') ∧ Hid (PickI n s zs w g1 g2 t wi)) (fun _ i _ => len0 + 1 - (intOf i).toNat)
          case atStart => exact ⟨0, 0, rfl, rfl, by omega, by omega, Lib.hid (Best.start n s zs t), HPt⟩
          case round =>
            obtain ⟨i', b', rfl, rfl, hi', hb', HBs, HPi⟩ := hrel
            by_cases hil : i' < len0 + 1
            · have hil' : (i' : Int) < (len0 : Int) + 1 := by omega
              have hil2 : (i' : Int) < ((len0 + 1 : Nat) : Int) := by omega
              have hbl' : (b' : Int) < (len0 : Int) + 1 := by omega
              have hiz : i' < zs.length := by rw [← Hlen.out]; exact hil
              have hbz : b' < zs.length := by rw [← Hlen.out]; exact hb'
              obtain ⟨x, Hx⟩ : ∃ x, Hid (x = leftAt n s zs t i') := ⟨_, Lib.hid rfl⟩
              obtain ⟨y, Hy⟩ : ∃ x, Hid (x = leftAt n s zs t b') := ⟨_, Lib.hid rfl⟩
              have h1 : wr.cell? ⟨g2, i', none⟩ = some (.int .i64 x) := by
                have := (HPi.out.2.2 i' (by rw [leftL_len]; exact hiz)).1
                rw [this, leftL_get, Hx.out]
              have h2 : wr.cell? ⟨g2, b', none⟩ = some (.int .i64 y) := by
                have := (HPi.out.2.2 b' (by rw [leftL_len]; exact hbz)).1
                rw [this, leftL_get, Hy.out]
              have lz := lt_of_cell h1
              have p1 : ∀ X : Grown wr, X.w.cell? ⟨g2, i', none⟩ = some (.int .i64 x) := fun X => by rw [X.cell lz, h1]
              have p2 : ∀ X : Grown wr, X.w.cell? ⟨g2, b', none⟩ = some (.int .i64 y) := fun X => by rw [X.cell lz, h2]
              clear h1 h2
              go_wp2_with fail
              refine wp_region_grown (by kernel_rfl) (by kernel_rfl) ?_
              repeat (go_big_quiet_step (fail))
              refine wpQuiet_nil ?_
              rintro _ ⟨X, rfl⟩
              by_cases hxy : y < x
              · go_wp2
                go_roundw
                case rel => exact ⟨i' + 1, i', rfl, by go_num, by omega, by omega, Lib.hid (HBs.out.more (by rw [← Hx.out, ← Hy.out]; exact hxy)), Lib.hid (HPi.out.below X.below)⟩
                case measure => simp [intOf]; omega
              · go_wp2
                go_roundw
                case rel => exact ⟨i' + 1, b', rfl, by go_num, by omega, by omega, Lib.hid (HBs.out.same (by rw [← Hx.out, ← Hy.out]; exact hxy)), Lib.hid (HPi.out.below X.below)⟩
                case measure => simp [intOf]; omega
            · obtain rfl : i' = len0 + 1 := by omega
              have hbz : b' < zs.length := by rw [← Hlen.out]; exact hb'
              have HR : Hid (rk n s zs b' = t) := Lib.hid (pick (by omega) htz hbz (fun i hi => HBs.out.1 i (by rw [Hlen.out]; exact hi)) HBs.out.2)
              have HS : Hid (PickI n s zs w g1 g2 (t + 1) ((wr.setCell ⟨g1, b', none⟩ (.int .i64 (outAt n s zs t b' + 1))).setCell ⟨g2, b', none⟩ (.int .i64 (-1)))) := Lib.hid (HPi.out.step hbz HR.out hne l11 l21)
              have hob := HOB.out t b' hbz
              have h1 := HPi.out.2.1 b' (by rw [outL_len]; exact hbz)
              have h2 := HPi.out.2.2 b' (by rw [leftL_len]; exact hbz)
              rw [outL_get] at h1
              rw [leftL_get] at h2
              obtain ⟨x, Hx⟩ : ∃ x, Hid (x = outAt n s zs t b') := ⟨_, Lib.hid rfl⟩
              obtain ⟨y, Hy⟩ : ∃ x, Hid (x = leftAt n s zs t b') := ⟨_, Lib.hid rfl⟩
              rw [← Hx.out] at HS hob h1
              rw [← Hy.out] at h2
              obtain ⟨h11, h12⟩ := h1
              obtain ⟨h21, h22⟩ := h2
              obtain ⟨x0, x1⟩ := hob
              have hbl' : (b' : Int) < (len0 : Int) + 1 := by omega
              have h3 : (wr.setCell ⟨g1, b', none⟩ (.int .i64 (x + 1))).cell? ⟨g2, b', none⟩ = some (.int .i64 y) := by
                rw [World.cell?_setCell_other _ _ _ _ (by simp [hne]), h21]
              have h4 : (wr.setCell ⟨g1, b', none⟩ (.int .i64 (x + 1))).frozen? ⟨g2, b', none⟩ = false := by rw [World.frozen?_setCell, h22]
              go_wp2
              go_roundw
              case rel => exact ⟨t + 1, by congr 1; omega, by omega, HS⟩
              case measure => simp [intOf]; omega
        · have htz : ¬ 0 < L - t := by omega
          go_wp2
          go_ret2
          have e : outL n s zs t = shares n s zs := outL_done n s zs t (by rw [← HL.out]; omega)
          have hp := HPt.out
          exact ⟨g1, ⟨cap1, rfl⟩, hp.1, l11, by rw [← e]; exact hp.2.1⟩

end Go.Proofs.YtijnnfioggjaeaaDoor
