/- The walk of money.Split: the parts, in the order of the weights. -/
import Derived.Test.YtijnnfioggjaeaaDoorMonSorted
import Derived.Test.YtijnnfioggjaeaaDoorMonRank
import Derived.OwnWalk
import Derived.RegionTactic
namespace Go.Proofs.YtijnnfioggjaeaaDoor
open Go.RowKit

/-- The parts of an amount by weights, the first k of them. -/
def partAt (n s : Int) (zs : List Int) (j : Nat) : Mon.Part := ⟨(j : Int), n * (zs[j]?.getD 0) / s, n * (zs[j]?.getD 0) % s⟩
def partsTo (n s : Int) (zs : List Int) (k : Nat) : List Mon.Part := (List.range k).map (partAt n s zs)
theorem partsTo_succ (n s : Int) (zs : List Int) (k : Nat) : partsTo n s zs (k + 1) = partsTo n s zs k ++ [partAt n s zs k] := by simp [partsTo, List.range_succ]
theorem partsTo_len (n s : Int) (zs : List Int) (k : Nat) : (partsTo n s zs k).length = k := by simp [partsTo]
theorem partsTo_get (n s : Int) (zs : List Int) (k j : Nat) (h : j < (partsTo n s zs k).length) : (partsTo n s zs k)[j] = partAt n s zs j := by simp [partsTo]
theorem partsTo_idx (n s : Int) (zs : List Int) (k : Nat) : (partsTo n s zs k).Pairwise fun p q => p.i < q.i := by
  rw [List.pairwise_iff_getElem]
  intro i j hi hj hij
  rw [partsTo_get, partsTo_get]
  show (i : Int) < j
  omega
/-- What the shares of the first k parts come to. -/
def qsum (n s : Int) (zs : List Int) : Nat → Int
  | 0 => 0
  | k + 1 => qsum n s zs k + (partAt n s zs k).q

theorem quot_bd {n s z : Int} (hn : 0 ≤ n ∧ n ≤ 1000000000000) (hz : 0 ≤ z ∧ z ≤ 9999999) (hs : 1 ≤ s) (hzs : z ≤ s) : 0 ≤ n * z ∧ n * z ≤ 9999999000000000000 ∧ 0 ≤ n * z / s ∧ n * z / s ≤ 1000000000000 ∧ 0 ≤ n * z % s ∧ n * z % s < s := by
  have h1 := Int.mul_nonneg hn.1 hz.1
  have h2 : n * z ≤ 1000000000000 * z := Int.mul_le_mul_of_nonneg_right hn.2 hz.1
  have h3 : n * z ≤ n * s := Int.mul_le_mul_of_nonneg_left hzs hn.1
  have h4 : n * z / s ≤ n := by
    have : n * z / s < n + 1 := (Int.ediv_lt_iff_lt_mul (by omega)).2 (by rw [Int.add_mul]; omega)
    omega
  exact ⟨h1, by omega, Int.ediv_nonneg h1 (by omega), by omega, Int.emod_nonneg _ (by omega), Int.emod_lt_of_pos _ (by omega)⟩

/-- A list of numbers of the call's own lies in the block g. -/
def Row (W : World) (g : Nat) (c : List Int) : Prop := ∀ j, (h : j < c.length) → W.cell? ⟨g, j, none⟩ = some (.int .i64 c[j]) ∧ W.frozen? ⟨g, j, none⟩ = false
theorem Row.grown {W W' : World} {g : Nat} {c : List Int} {row : Option Nat} (h : Row W g c) (hg : W.grownBy W' row) (hne : some g ≠ row) : Row W' g c := by
  intro j hj
  obtain ⟨h1, h2⟩ := h j hj
  exact ⟨hg.cell h1 hne, (World.frozen?_of_block (a := ⟨g, j, none⟩) (hg.block g (lt_of_cell h1) hne)).trans h2⟩
theorem Row.set {W : World} {g : Nat} {c : List Int} (h : Row W g c) {k : Nat} (hk : k < c.length) (x : Int) : Row (W.setCell ⟨g, k, none⟩ (.int .i64 x)) g (c.set k x) := by
  intro j hj
  obtain ⟨h1, h2⟩ := h j (by simpa using hj)
  rw [World.frozen?_setCell]
  refine ⟨?_, h2⟩
  rw [List.getElem_set]
  by_cases hjk : k = j
  · subst hjk; rw [if_pos rfl, World.cell?_setCell_same _ _ _ h1]
  · rw [if_neg hjk, World.cell?_setCell_other _ _ _ _ (by intro h; injection h; omega)]; exact h1
/-- The shares of an amount. -/
def shares (n s : Int) (zs : List Int) : List Int :=
  (List.range zs.length).map fun j => Mon.fin (partsTo n s zs zs.length) (n - qsum n s zs zs.length) (partAt n s zs j)
theorem shares_of {n s : Int} {zs : List Int} {L : List Mon.Part} {c : List Int} (hp : L.Perm (partsTo n s zs zs.length)) (hs : L.Pairwise Mon.ord) (hc : c.length = zs.length)
    (h : ∀ t, (ht : t < L.length) → c[L[t].i.toNat]? = some (L[t].q + if (t : Int) < n - qsum n s zs zs.length then 1 else 0)) : c = shares n s zs := by
  apply List.ext_getElem
  · rw [hc]; simp [shares]
  · intro j h1 h2
    have hjz : j < zs.length := by rw [← hc]; exact h1
    have hmem : partAt n s zs j ∈ L := hp.symm.subset (List.mem_map.2 ⟨j, List.mem_range.2 hjz, rfl⟩)
    obtain ⟨t, ht, e⟩ := List.getElem_of_mem hmem
    have h3 := h t ht
    rw [e] at h3
    have h4 : ((partAt n s zs j).i).toNat = j := rfl
    rw [h4, List.getElem?_eq_getElem h1] at h3
    have h5 : Mon.rank (partsTo n s zs zs.length) (partAt n s zs j) = t := by rw [← Mon.rank_perm hp, ← e]; exact Mon.rank_at hs t ht
    rw [Option.some.inj h3]
    simp only [shares, List.getElem_map, List.getElem_range, Mon.fin, h5]
theorem info_int : (Tryd.prog.info? 3).map (fun i => (i.zero, i.size, i.bytes)) = some (some (.int .i64 0), 1, 8) := by kernel_rfl

/-- How Split goes on behind the first loop. -/
def SplitI (n s : Int) (zs : List Int) (w : World) (k : Nat) (v : Value) (wr : World) : Prop :=
  Below w.heap.size w wr ∧ wr.ownsRow w.heap.size 42 3 v k (flatP (partsTo n s zs k))

set_option maxRecDepth 100000 in
set_option maxHeartbeats 8000000 in
theorem split_good (n s : Int) (zs : List Int) (len : Nat) (hlen : len = zs.length) (hl0 : 1 ≤ len) (hl1 : len ≤ 16) (hn : 0 ≤ n ∧ n ≤ 1000000000000) (hz : ∀ z ∈ zs, 0 ≤ z ∧ z ≤ 9999999) (hs : 1 ≤ s ∧ s ≤ 159999984) (hzs : ∀ z ∈ zs, z ≤ s) (bk off cap : Nat) (w : World) (hbk : bk < w.heap.size)
    (hc : ∀ j, j < len → w.cell? ⟨bk, off + j, none⟩ = some (.int .i64 (zs[j]?.getD 0)))
    (HT : Hid (Calls Tryd.prog 17 #[.slice (some ⟨bk, off, none⟩) len cap] w fun e w' => e = .returned (.tuple #[.int .u64 s, .bool true]) ∧ w = w'))
    (hA : Mon.amtB n = true) :
    Calls Tryd.prog 6 #[.int .i64 n, .slice (some ⟨bk, off, none⟩) len cap] w
      fun e w' => ∃ g cp, e = .returned (.tuple #[.slice (some ⟨g, 0, none⟩) len cp, .int .i64 0]) ∧ Below w.heap.size w w' ∧ w.heap.size ≤ g ∧ Row w' g (shares n s zs) := by
  obtain ⟨i0, hi, hz0, hz1, hz2⟩ := info_parts info_part
  obtain ⟨i1, hi1, hy0, hy1, hy2⟩ := info_parts info_int
  have HC := Lib.hid hc
  have HZ := Lib.hid hz
  have HZS := Lib.hid hzs
  have Hlen := Lib.hid hlen
  clear hc hz hzs hlen
  obtain ⟨n1, n2⟩ := hn
  obtain ⟨s1, s2⟩ := hs
  go_enter Tryd.func6, Tryd.ntmps6
  go_wp2_with fail
  refine HT.out.mono ?_
  rintro e w' ⟨rfl, rfl⟩
  go_wp2_with fail
  refine (isAmount_any _ _).mono ?_
  rintro e w' ⟨rfl, rfl⟩
  go_wp2
  go_loopw [8, 9, 32] (fun v t i wr => ∃ (k : Nat) (q : Int), k ≤ len ∧ i = .int .i64 k ∧ t = .int .i64 (n - q) ∧ 0 ≤ q ∧ q ≤ 1000000000000 * k ∧ Hid (q = qsum n s zs k) ∧ Hid (SplitI n s zs w k v wr)) (fun _ _ i _ => len - (intOf i).toNat)
  case atStart => exact ⟨0, 0, by omega, rfl, by simp, by omega, by omega, Lib.hid rfl, Lib.hid ⟨Below.refl _ _, World.ownsRow_nil _ _ _ _⟩⟩
  case round =>
    obtain ⟨k, q, hk, rfl, rfl, q0, q1, Hq, HI⟩ := hrel
    by_cases hlt : k < len
    · have hkz : k < zs.length := by rw [← Hlen.out]; exact hlt
      obtain ⟨z, Hzd⟩ : ∃ z, Hid (z = zs[k]?.getD 0) := ⟨_, Lib.hid rfl⟩
      have hmem : z ∈ zs := by rw [Hzd.out, List.getElem?_eq_getElem hkz]; exact List.getElem_mem _
      obtain ⟨z0, z1⟩ := HZ.out z hmem
      have zs1 := HZS.out z hmem
      obtain ⟨p0, p1, p2, p3, p4, p5⟩ := quot_bd ⟨n1, n2⟩ ⟨z0, z1⟩ s1 zs1
      have hcell : wr.cell? ⟨bk, off + k, none⟩ = some (.int .i64 z) := by rw [HI.out.1.cell (p := ⟨bk, off + k, none⟩) hbk, HC.out k hlt, Hzd.out]
      obtain ⟨x, Hx⟩ : ∃ x, Hid (x = n * z) := ⟨_, Lib.hid rfl⟩
      rw [← Hx.out] at p0 p1 p2 p3 p4 p5
      have e1 : IntKind.u64.wrap n = n := by have e : ∀ n : Int, IntKind.u64.wrap n = n % 18446744073709551616 := fun n => rfl; rw [e]; omega
      have e2 : IntKind.u64.wrap z = z := by have e : ∀ n : Int, IntKind.u64.wrap n = n % 18446744073709551616 := fun n => rfl; rw [e]; omega
      have e3 : IntKind.u64.wrap (n * z) = x := by have e : ∀ n : Int, IntKind.u64.wrap n = n % 18446744073709551616 := fun n => rfl; rw [e, ← Hx.out]; omega
      clear hmem
      obtain ⟨y, Hy⟩ : ∃ y, Hid (y = x / s) := ⟨_, Lib.hid rfl⟩
      obtain ⟨r, Hr⟩ : ∃ y, Hid (y = x % s) := ⟨_, Lib.hid rfl⟩
      rw [← Hy.out] at p2 p3
      rw [← Hr.out] at p4 p5
      go_wp2
      clear e1 e2 e3
      have e4 : IntKind.i64.wrap y = y := by rw [IntKind.wrap_i64]; omega
      have e5 : x / s = y := Hy.out.symm
      have e6 : x % s = r := Hr.out.symm
      have hs0 : ¬ s = 0 := by omega
      have hs3 : (s == 0) = false := by simp [hs0]
      go_region
      clear e4 e5 e6 hs0 hs3
      have HO : Hid (((wr.alloc (.cells #[.int .i64 k, .int .i64 y, .int .u64 r] 42)).drew).ownsRow w.heap.size 42 3 u8 k (flatP (partsTo n s zs k))) := Lib.hid (HI.out.2.alloc _).drew
      have HB : Hid (Below w.heap.size w ((wr.alloc (.cells #[.int .i64 k, .int .i64 y, .int .u64 r] 42)).drew)) := Lib.hid ((HI.out.1.alloc HI.out.1.size _).drew)
      have c0 : ((wr.alloc (.cells #[.int .i64 k, .int .i64 y, .int .u64 r] 42)).drew).cell? ⟨wr.heap.size, 0, none⟩ = some (.int .i64 k) := by rw [World.cell?_drew, cell_alloc, if_pos rfl]; rfl
      have c1 : ((wr.alloc (.cells #[.int .i64 k, .int .i64 y, .int .u64 r] 42)).drew).cell? ⟨wr.heap.size, 1, none⟩ = some (.int .i64 y) := by rw [World.cell?_drew, cell_alloc, if_pos rfl]; rfl
      have c2 : ((wr.alloc (.cells #[.int .i64 k, .int .i64 y, .int .u64 r] 42)).drew).cell? ⟨wr.heap.size, 2, none⟩ = some (.int .u64 r) := by rw [World.cell?_drew, cell_alloc, if_pos rfl]; rfl
      obtain ⟨W1, HW1⟩ : ∃ W1, Hid (W1 = (wr.alloc (.cells #[.int .i64 k, .int .i64 y, .int .u64 r] 42)).drew) := ⟨_, Lib.hid rfl⟩
      rw [← HW1.out] at HO HB c0 c1 c2 ⊢
      clear hcell
      have HN : Hid (∀ j u, [Value.int .i64 (k : Int), .int .i64 y, .int .u64 r][j]? = some u → (W1.alloc (.cells #[.int .i64 k, .int .i64 y, .int .u64 r] 42)).cell? ((⟨W1.heap.size, 0, none⟩ : Addr).add j) = some u) := Lib.hid (by
        intro j u hu
        have e : (⟨W1.heap.size, 0, none⟩ : Addr).add j = ⟨W1.heap.size, j, none⟩ := by unfold Addr.add; split <;> simp_all
        rw [e, cell_alloc, if_pos rfl]
        simpa using hu)
      have hw1 := HB.out.size
      go_wp2_with (at_builtin; refine wpList_append_own _ rfl _ _ 40 rfl w.heap.size 42 i0 (.agg #[.int .i64 0, .int .i64 0, .int .u64 0]) 3 24 Tryd.underlying40 hi hz0 hz1 hz2 rfl (by decide) _ _ _ rfl (HO.out.alloc _) ⟨W1.heap.size, 0, none⟩ 1 1 [.int .i64 k, .int .i64 y, .int .u64 r] rfl rfl HN.out (by simp [Value.oneCell']) (by unfold maxLen; omega) (by omega) (by rw [size_alloc]; omega) ?_; intro v' w1 hown' hgrow _)
      have HO' := Lib.hid hown'
      have HG' := Lib.hid hgrow
      clear hown' hgrow c0 c1 c2
      go_roundw
      case rel =>
        refine ⟨k + 1, q + y, by omega, by go_num, by congr 1; omega, by omega, by omega, Lib.hid ?_, Lib.hid ⟨?_, ?_⟩⟩
        · show q + y = qsum n s zs k + n * (zs[k]?.getD 0) / s
          rw [← Hq.out, ← Hzd.out, ← Hx.out, ← Hy.out]
        · exact (HB.out.alloc HB.out.size _).grown HG'.out (by rw [size_alloc]; omega) (fun j e => ((HO.out.lt j e).1))
        · have e : flatP (partsTo n s zs (k + 1)) = flatP (partsTo n s zs k) ++ [.int .i64 k, .int .i64 y, .int .u64 r] := by
            rw [partsTo_succ, flatP_append]
            congr 1
            show [Value.int .i64 (k : Int), .int .i64 (n * (zs[k]?.getD 0) / s), .int .u64 (n * (zs[k]?.getD 0) % s)] = _
            rw [← Hzd.out, ← Hx.out, ← Hy.out, ← Hr.out]
          rw [e]
          exact HO'.out
      case measure => simp [intOf]; omega
    · obtain rfl : len = k := by omega
      obtain ⟨len0, rfl⟩ : ∃ m, len = m + 1 := ⟨len - 1, by omega⟩
      obtain ⟨wp, rfl⟩ : ∃ x, x = wr := ⟨_, rfl⟩
      have hown := HI.out.2
      obtain ⟨g, cap', rfl⟩ := ownsRow_succ' hown
      have hgl := hown.lt g rfl
      have HPr : Hid (Parts wp g (partsTo n s zs (len0 + 1))) := Lib.hid (parts_of_owns (cap := cap') (base := w.heap.size) (e := 42) (by rw [partsTo_len]; exact hown))
      have HBr : Hid (Below w.heap.size w wp) := Lib.hid HI.out.1
      have hwr := HBr.out.size
      clear hown
      go_wp2_with (at_make; refine wpList_make_full _ rfl _ _ 22 rfl wp.heap.size 3 i1 (.int .i64 0) 1 Tryd.underlying22 hi1 hy0 hy1 .i64 .i64 _ _ (len0 + 1) rfl rfl rfl rfl (by rw [hy2]; omega) (by unfold maxLen; omega) (Nat.le_refl _) ?_; intro w3 hownS hgrS)
      have z3 := hgrS.size
      have HRow : Hid (Row w3 wp.heap.size (List.replicate (len0 + 1) 0)) := Lib.hid (by
        intro j hj
        rw [List.length_replicate] at hj
        have e : (madeCells (Value.int .i64 0).cells ((len0 + 1) * 1)).toList = List.replicate (len0 + 1) (Value.int .i64 0) := by
          rw [Nat.mul_one]; exact toList_madeCells_one _ _
        rw [e] at hownS
        refine ⟨?_, hownS.frozenAt _⟩
        rw [hownS.cellAt j (by omega), List.getElem?_replicate, if_pos hj, List.getElem_replicate])
      have hgs3 : wp.heap.size < w3.heap.size := (hownS.lt wp.heap.size rfl).2
      have HP3 : Hid (Parts w3 g (partsTo n s zs (len0 + 1))) := Lib.hid (HPr.out.below ⟨hgrS.os, hgrS.tape, hgrS.output, hgrS.size, fun k hk => hgrS.block k hk (by simp)⟩)
      have HB3 : Hid (Below w.heap.size w w3) := Lib.hid (HBr.out.grown hgrS hwr (fun k e => by cases e))
      have KS := Lib.hid (sorted_any (partsTo n s zs (len0 + 1)) (len0 + 1) (partsTo_len _ _ _ _).symm hl0 hl1 (partsTo_idx _ _ _ _) g cap' w3 HP3.out (by omega))
      clear hownS hgrS
      refine KS.out.mono ?_
      rintro e w4 ⟨g', cap2, rfl, hb4, hg3, hg4, L, hL1, hL2, hL3⟩
      have HL := Lib.hid (And.intro hL1 (And.intro hL2 hL3))
      have HR4 : Hid (Row w4 wp.heap.size (List.replicate (len0 + 1) 0)) := Lib.hid (HRow.out.grown (grown_below hb4 none) (by simp))
      have HB4 : Hid (Below w.heap.size w w4) := Lib.hid (HB3.out.trans (hb4.mono HB3.out.size))
      have z4 := hb4.size
      have hLlen : L.length = len0 + 1 := by rw [hL1.length_eq, partsTo_len]
      have HLl := Lib.hid hLlen
      have hgne : g' ≠ wp.heap.size := by omega
      clear hL1 hL2 hL3 hb4 hLlen
      go_wp2
      go_loopw [66] (fun i ws => ∃ (t : Nat), t ≤ len0 + 1 ∧ i = .int .i64 t ∧ Hid (w4.grownBy ws (some wp.heap.size)) ∧ Hid (∃ c : List Int, c.length = len0 + 1 ∧ Row ws wp.heap.size c ∧ ∀ u, (hu : u < L.length) → u < t → c[L[u].i.toNat]? = some (L[u].q + if (u : Int) < n - q then 1 else 0))) (fun i _ => len0 + 1 - (intOf i).toNat)
      case atStart => exact ⟨0, by omega, rfl, Lib.hid (World.grownBy.refl _ _), Lib.hid ⟨_, List.length_replicate, HR4.out, fun u hu h => by omega⟩⟩
      case round =>
        obtain ⟨t, ht, rfl, HG, HCx⟩ := hrel
        by_cases htl : t < len0 + 1
        · have htL : t < L.length := by rw [HLl.out]; exact htl
          obtain ⟨c, HCc⟩ : ∃ c : List Int, Hid (c.length = len0 + 1 ∧ Row wr wp.heap.size c ∧ ∀ u, (hu : u < L.length) → u < t → c[L[u].i.toNat]? = some (L[u].q + if (u : Int) < n - q then 1 else 0)) := by
            obtain ⟨c, h⟩ := HCx.out; exact ⟨c, Lib.hid h⟩
          obtain ⟨j, Hj⟩ : ∃ j : Nat, Hid (j < len0 + 1 ∧ L[t] = partAt n s zs j) := by
            obtain ⟨j, hj, e⟩ := List.mem_map.1 (HL.out.1.subset (List.getElem_mem htL))
            exact ⟨j, Lib.hid ⟨List.mem_range.1 hj, e.symm⟩⟩
          have hj1 : j < len0 + 1 := Hj.out.1
          have hjc : j < c.length := by rw [HCc.out.1]; exact hj1
          have hjz : j < zs.length := by rw [← Hlen.out]; exact hj1
          obtain ⟨pq, Hpq⟩ : ∃ x, Hid (x = L[t].q) := ⟨_, Lib.hid rfl⟩
          obtain ⟨pr, Hpr⟩ : ∃ x, Hid (x = L[t].r) := ⟨_, Lib.hid rfl⟩
          have hpi : L[t].i = (j : Int) := by rw [Hj.out.2]; rfl
          have hqb : 0 ≤ pq ∧ pq ≤ 1000000000000 := by
            rw [Hpq.out, Hj.out.2]
            have hm : zs[j]?.getD 0 ∈ zs := by rw [List.getElem?_eq_getElem hjz]; exact List.getElem_mem _
            have := quot_bd ⟨n1, n2⟩ (HZ.out _ hm) s1 (HZS.out _ hm)
            exact ⟨this.2.2.1, this.2.2.2.1⟩
          obtain ⟨hq0, hq1⟩ := hqb
          obtain ⟨⟨d1, d2, d3⟩, -⟩ := HL.out.2.2 t htL
          rw [hpi] at d1
          rw [← Hpq.out] at d2
          rw [← Hpr.out] at d3
          have hg'lt := lt_of_cell d1
          have hsize := HG.out.size
          have k1 : wr.cell? ⟨g', t * 3, none⟩ = some (.int .i64 j) := HG.out.cell d1 (by simp [hgne])
          have k2 : wr.cell? ⟨g', t * 3 + 1, none⟩ = some (.int .i64 pq) := HG.out.cell d2 (by simp [hgne])
          have k3 : wr.cell? ⟨g', t * 3 + 2, none⟩ = some (.int .u64 pr) := HG.out.cell d3 (by simp [hgne])
          obtain ⟨cj, Hcj⟩ : ∃ x, Hid (x = c[j]) := ⟨_, Lib.hid rfl⟩
          obtain ⟨m1, m2⟩ := HCc.out.2.1 j hjc
          rw [← Hcj.out] at m1
          have hwplt := lt_of_cell m1
          have hne : ¬ wp.heap.size = wr.heap.size := by omega
          have hne' : ¬ wr.heap.size = wp.heap.size := by omega
          have o1 : (wr.alloc (.cells #[.int .i64 j, .int .i64 pq, .int .u64 pr] 42)).cell? ⟨wp.heap.size, j, none⟩ = some (.int .i64 cj) := by rw [cell_alloc, if_neg hne, m1]
          have o2 : (wr.alloc (.cells #[.int .i64 j, .int .i64 pq, .int .u64 pr] 42)).frozen? ⟨wp.heap.size, j, none⟩ = false := by rw [frozen_alloc, if_neg hne, m2]
          have o3 : (wr.alloc (.cells #[.int .i64 j, .int .i64 pq, .int .u64 pr] 42)).cell? ⟨wr.heap.size, 0, none⟩ = some (.int .i64 j) := by rw [cell_alloc, if_pos rfl]; rfl
          have o4 : (wr.alloc (.cells #[.int .i64 j, .int .i64 pq, .int .u64 pr] 42)).cell? ⟨wr.heap.size, 1, none⟩ = some (.int .i64 pq) := by rw [cell_alloc, if_pos rfl]; rfl
          have o5 : ((wr.setCell ⟨wp.heap.size, j, none⟩ (.int .i64 pq)).alloc (.cells #[.int .i64 j, .int .i64 pq, .int .u64 pr] 42)).cell? ⟨wr.heap.size, 0, none⟩ = some (.int .i64 j) := by rw [cell_alloc, if_pos (by simp)]; rfl
          have o6 : ((wr.setCell ⟨wp.heap.size, j, none⟩ (.int .i64 pq)).alloc (.cells #[.int .i64 j, .int .i64 pq, .int .u64 pr] 42)).cell? ⟨wp.heap.size, j, none⟩ = some (.int .i64 pq) := by rw [cell_alloc, if_neg (by simpa using hne), World.cell?_setCell_same _ _ _ m1]
          have o7 : ((wr.setCell ⟨wp.heap.size, j, none⟩ (.int .i64 pq)).alloc (.cells #[.int .i64 j, .int .i64 pq, .int .u64 pr] 42)).frozen? ⟨wp.heap.size, j, none⟩ = false := by rw [frozen_alloc, if_neg (by simpa using hne), World.frozen?_setCell, m2]
          clear d1 d2 d3 m1 m2 hpi
          have HRr : Hid (Row wr wp.heap.size c) := Lib.hid HCc.out.2.1
          have Hold : Hid (∀ (x : Int) (u : Nat) (hu : u < L.length), u < t → (c.set j x)[L[u].i.toNat]? = some (L[u].q + if (u : Int) < n - q then 1 else 0)) := Lib.hid (by
            intro x u hu hut
            have hne2 : j ≠ L[u].i.toNat := by
              intro e
              obtain ⟨ju, hju, eu⟩ := List.mem_map.1 (HL.out.1.subset (List.getElem_mem hu))
              have e1 : L[u].i = (ju : Int) := by rw [← eu]; rfl
              rw [e1, Int.toNat_natCast] at e
              subst e
              have e2 : L[u] = L[t] := by rw [← eu, Hj.out.2]
              have := List.pairwise_iff_getElem.1 HL.out.2.1 u t hu htL hut
              rw [e2] at this
              unfold Mon.ord at this
              omega
            rw [List.getElem?_set_ne hne2]
            exact HCc.out.2.2 u hu hut)
          have Hnew : Hid (∀ x : Int, (c.set j x)[L[t].i.toNat]? = some x) := Lib.hid (by
            intro x
            have e1 : L[t].i.toNat = j := by rw [Hj.out.2]; rfl
            rw [e1, List.getElem?_set_self hjc])
          by_cases hin : (t : Int) < n - q
          · go_wp2
            go_roundw
            case rel =>
              refine ⟨t + 1, by omega, by go_num, Lib.hid ((HG.out.trans ((grown_set _ _ _ _).trans (grown_set _ _ _ _))).trans (World.grownBy_alloc _ _ _)), Lib.hid ⟨(c.set j pq).set j (pq + 1), by rw [List.length_set, List.length_set]; exact HCc.out.1, ((HRr.out.set hjc pq).set (by rw [List.length_set]; exact hjc) (pq + 1)).grown (World.grownBy_alloc _ _ none) (by simp), ?_⟩⟩
              intro u hu hut
              rw [List.set_set]
              by_cases hut2 : u = t
              · subst hut2; rw [Hnew.out, if_pos hin, Hpq.out]
              · exact Hold.out _ u hu (by omega)
            case measure => simp [intOf]; omega
          · go_wp2
            go_roundw
            case rel =>
              refine ⟨t + 1, by omega, by go_num, Lib.hid ((HG.out.trans (grown_set _ _ _ _)).trans (World.grownBy_alloc _ _ _)), Lib.hid ⟨c.set j pq, by rw [List.length_set]; exact HCc.out.1, (HRr.out.set hjc pq).grown (World.grownBy_alloc _ _ none) (by simp), ?_⟩⟩
              intro u hu hut
              by_cases hut2 : u = t
              · subst hut2; rw [Hnew.out, if_neg hin, Int.add_zero, Hpq.out]
              · exact Hold.out _ u hu (by omega)
            case measure => simp [intOf]; omega
        · obtain rfl : t = len0 + 1 := by omega
          go_wp2
          go_ret2
          obtain ⟨c, hc1, hc2, hc3⟩ := HCx.out
          have e : c = shares n s zs := by
            refine shares_of (L := L) (by rw [← Hlen.out]; exact HL.out.1) HL.out.2.1 (by rw [hc1]; exact Hlen.out) ?_
            intro u hu
            rw [← Hlen.out, ← Hq.out]
            exact hc3 u hu (by rw [← HLl.out]; exact hu)
          rw [e] at hc2
          exact ⟨wp.heap.size, len0 + 1, rfl, HB4.out.grown HG.out HB4.out.size (fun k e => by cases e; exact hwr), hwr, hc2⟩

end Go.Proofs.YtijnnfioggjaeaaDoor
