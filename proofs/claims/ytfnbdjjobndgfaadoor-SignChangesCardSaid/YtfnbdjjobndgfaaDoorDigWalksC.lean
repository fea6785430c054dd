/- The walks of package digest: the blocks of a text, and its digest. -/
import Derived.Test.YtfnbdjjobndgfaaDoorDigWalksB
import Derived.Laws.CopyRow
import Derived.Deep.QuietTactic
import Derived.BigQuiet
import Derived.Lib.Strings
namespace Go.Proofs.YtfnbdjjobndgfaaDoor
open Go.RowKit

/-- Copying a text into a new row of the call's own: as much of it as fits. -/
theorem run_copy_fresh {P : Program} (W : World) (dT sT ty elem : TypeId) (cells : Array Value) (T : TypeId) (s : ByteArray) (n : Nat) (hn : cells.size = n)
    (hu : P.underlying dT = some (.slice elem)) (hs : (P.info? elem).map (·.size) = some 1) :
    (Builtin.copy_ #[dT, sT] ty #[.slice (some ⟨W.heap.size, 0, none⟩) n n, .string s]).run P (W.alloc (.cells cells T)).drew =
      .ok (goInt (Nat.min s.size n)) (W.alloc (.cells ((s.data.toList.map fun b => Value.int .u8 b.toNat).take n ++ cells.toList.drop s.size).toArray T)).drew := by
  have hg : (W.alloc (.cells cells T)).drew.heap[W.heap.size]? = some (.cells cells T (0, 0)) := Array.getElem?_push_size
  have hsz : s.data.toList.length = s.size := rfl
  have hmin : Nat.min s.size n ≤ n := Nat.min_le_right _ _
  have htk : (s.data.toList.map fun b => Value.int .u8 (b.toNat : Int)).take (Nat.min s.size n) = (s.data.toList.map fun b => Value.int .u8 (b.toNat : Int)).take n := by
    rcases Nat.le_total s.size n with h | h
    · rw [show Nat.min s.size n = s.size from Nat.min_eq_left h, List.take_of_length_le (by simp), List.take_of_length_le (by simp; omega)]
    · rw [show Nat.min s.size n = n from Nat.min_eq_right h]
  have hlen : ((s.data.toList.map fun b => Value.int .u8 (b.toNat : Int)).take (Nat.min s.size n)).length = Nat.min s.size n := by
    rw [List.length_take, List.length_map, hsz]; exact Nat.min_eq_left (Nat.min_le_left _ _)
  have hone : ∀ v ∈ (s.data.toList.map fun b => Value.int .u8 (b.toNat : Int)).take (Nat.min s.size n), v.oneCell' = true := by
    intro v hv
    obtain ⟨b, _, rfl⟩ := List.mem_map.1 (List.mem_of_mem_take hv)
    rfl
  have hst := run_storeCells_at P W.heap.size 0 T ((s.data.toList.map fun b => Value.int .u8 (b.toNat : Int)).take (Nat.min s.size n)) 0 cells (W.alloc (.cells cells T)).drew hg (by rw [hlen]; omega) hone
  have hdrop : cells.toList.drop (0 + 0 + ((s.data.toList.map fun b => Value.int .u8 (b.toNat : Int)).take (Nat.min s.size n)).length) = cells.toList.drop s.size := by
    rw [hlen]
    rcases Nat.le_total s.size n with h | h
    · rw [show Nat.min s.size n = s.size from Nat.min_eq_left h]; simp
    · rw [show Nat.min s.size n = n from Nat.min_eq_right h, List.drop_of_length_le (by simp; omega), List.drop_of_length_le (by simp; omega)]
  rw [hdrop] at hst
  have hrow : ∀ cs, (W.alloc (.cells cells T)).drew.setRow W.heap.size cs = (W.alloc (.cells cs T)).drew := by
    intro cs
    unfold World.setRow World.alloc World.drew
    congr 1
    apply Array.ext_getElem?
    intro k
    simp only [Array.getElem?_modify, Array.getElem?_push]
    by_cases hk : W.heap.size = k
    · subst hk; simp
    · have hk' : ¬ k = W.heap.size := fun e => hk e.symm
      simp [hk, hk']
  rw [hrow] at hst
  cases hq : P.info? elem with
  | none => simp [hq] at hs
  | some i =>
    have hi : i.size = 1 := by simpa [hq] using hs
    rw [htk] at hst
    simp [Builtin.copy_, run_underlying hu, Builtin.lenOf, Builtin.firstCells, sizeOf, typeInfo, hq, htk]
    rw [hst]
    simp [Result.andThen]

/-- What copying from a text leaves in a new block. -/
theorem block_cells (s : ByteArray) (p : Nat) (_ : p ≤ s.size) :
    (((s.extract p s.size).data.toList.map fun b => Value.int .u8 b.toNat).take 8 ++ (#[Value.int .u8 0, Value.int .u8 0, Value.int .u8 0, Value.int .u8 0, Value.int .u8 0, Value.int .u8 0, Value.int .u8 0, Value.int .u8 0] : Array Value).toList.drop (s.extract p s.size).size)
      = (Dig.blk s.data.toList p).map fun b => Value.int .u8 b.toNat := by
  have e1 : (s.extract p s.size).data.toList = s.data.toList.drop p := by
    rw [Lib.extract_data]
    exact List.take_of_length_le (by rw [List.length_drop]; exact Nat.le_refl _)
  have e2 : (s.extract p s.size).size = s.data.toList.length - p := by
    have : (s.extract p s.size).size = (s.extract p s.size).data.toList.length := rfl
    rw [this, e1, List.length_drop]
  have e3 : (#[Value.int .u8 0, Value.int .u8 0, Value.int .u8 0, Value.int .u8 0, Value.int .u8 0, Value.int .u8 0, Value.int .u8 0, Value.int .u8 0] : Array Value).toList = List.replicate 8 (Value.int .u8 ((0 : UInt8).toNat : Nat)) := rfl
  rw [e1, e2, e3, Dig.blk_eq, List.map_append, List.map_take, List.drop_replicate, List.map_replicate]

set_option maxHeartbeats 1000000 in
theorem next_any (s : ByteArray) (hs : s.size ≤ 140737488351232) (p : Nat) (hp : p ≤ s.size) (bt ba : Nat) (w : World) (_ : bt ≠ ba) (hbt : bt < w.heap.size) (hba : ba < w.heap.size)
    (ht : w.cell? ⟨bt, 0, none⟩ = some (.string s)) (ha : w.cell? ⟨ba, 0, none⟩ = some (.int .i64 (p : Int))) (hf : w.frozen? ⟨ba, 0, none⟩ = false) :
    Calls Tryd.prog 58 #[.pointer (some ⟨bt, 0, none⟩), .pointer (some ⟨ba, 0, none⟩)] w
      fun e w' => e = .returned (.agg ((Dig.blk s.data.toList p).map fun b => Value.int .u8 b.toNat).toArray) ∧ Below w.heap.size (w.setCell ⟨ba, 0, none⟩ (.int .i64 ((p + 8 : Nat) : Int))) w' := by
  have hlt : ¬ ((s.size : Int) < (p : Int)) := by omega
  have hz : (w.alloc (.cells #[Value.int .u8 0, Value.int .u8 0, Value.int .u8 0, Value.int .u8 0, Value.int .u8 0, Value.int .u8 0, Value.int .u8 0, Value.int .u8 0] 73)).heap.size = w.heap.size + 1 := by simp
  have hcopy := run_copy_fresh (P := Tryd.prog) (w.alloc (.cells #[Value.int .u8 0, Value.int .u8 0, Value.int .u8 0, Value.int .u8 0, Value.int .u8 0, Value.int .u8 0, Value.int .u8 0, Value.int .u8 0] 73)) 71 9 3 5
    #[Value.int .u8 0, Value.int .u8 0, Value.int .u8 0, Value.int .u8 0, Value.int .u8 0, Value.int .u8 0, Value.int .u8 0, Value.int .u8 0] 73 (s.extract p s.size) 8 rfl Tryd.underlying71 (by kernel_rfl)
  rw [hz, block_cells s p hp] at hcopy
  clear hz
  obtain ⟨b0, b1, b2, b3, b4, b5, b6, b7, Hb⟩ : ∃ b0 b1 b2 b3 b4 b5 b6 b7 : UInt8, Hid (Dig.blk s.data.toList p = [b0, b1, b2, b3, b4, b5, b6, b7]) := ⟨_, _, _, _, _, _, _, _, Lib.hid rfl⟩
  rw [Hb.out] at hcopy ⊢
  simp only [List.map_cons, List.map_nil] at hcopy ⊢
  go_enter Tryd.func58, Tryd.ntmps58
  go_wp2
  go_region
  go_wp2
  refine bodyPost_ret (v := .agg #[.int .u8 b0.toNat, .int .u8 b1.toNat, .int .u8 b2.toNat, .int .u8 b3.toNat, .int .u8 b4.toNat, .int .u8 b5.toNat, .int .u8 b6.toNat, .int .u8 b7.toNat]) (by simp [results, Tryd.results58, go_sem]) rfl ⟨rfl, ?_⟩
  exact (((Below.refl _ _).alloc (by simp) _).alloc (by simp) _).drew


theorem sum_keep {B p q : Nat} {s : ByteArray} {w wr w1 w2 : World} (hB : B + 2 ≤ wr.heap.size) (h1 : wr.cell? ⟨B, 0, none⟩ = some (.string s)) (h2 : wr.cell? ⟨B + 1, 0, none⟩ = some (.int .i64 (p : Int)))
    (h3 : wr.frozen? ⟨B + 1, 0, none⟩ = false) (hb : Below B w wr) (hb1 : Below wr.heap.size (wr.setCell ⟨B + 1, 0, none⟩ (.int .i64 (q : Int))) w1) (hb2 : Below w1.heap.size w1 w2) :
    w2.cell? ⟨B, 0, none⟩ = some (.string s) ∧ w2.cell? ⟨B + 1, 0, none⟩ = some (.int .i64 (q : Int)) ∧ w2.frozen? ⟨B + 1, 0, none⟩ = false ∧ Below B w w2 ∧ B + 2 ≤ w2.heap.size := by
  have z1 : wr.heap.size ≤ w1.heap.size := by have := hb1.size; simpa using this
  have z2 : w1.heap.size ≤ w2.heap.size := hb2.size
  refine ⟨?_, ?_, ?_, ?_, by omega⟩
  · rw [hb2.cell (by show B < _; omega), hb1.cell (by show B < _; omega), World.cell?_setCell_other _ _ _ _ (by simp), h1]
  · rw [hb2.cell (by show B + 1 < _; omega), hb1.cell (by show B + 1 < _; omega), World.cell?_setCell_same _ _ _ h2]
  · rw [hb2.frozen (by show B + 1 < _; omega), hb1.frozen (by show B + 1 < _; omega), World.frozen?_setCell, h3]
  · exact ((hb.setCell (by show B ≤ B + 1; omega) _).trans (hb1.mono (by omega))).trans (hb2.mono (by omega))
theorem number_list (l : List UInt8) (hl : l.length = 8) (w : World) :
    Calls Tryd.prog 60 #[.agg (l.map fun b => Value.int .u8 b.toNat).toArray] w
      fun e w' => e = .returned (.int .u64 (Dig.num l)) ∧ Below w.heap.size w w' := by
  match l, hl with
  | [b0, b1, b2, b3, b4, b5, b6, b7], _ => exact number_any b0 b1 b2 b3 b4 b5 b6 b7 w

set_option maxHeartbeats 1000000 in
theorem sum_any (s : ByteArray) (hs : s.size ≤ 140737488351232) (w : World) :
    Calls Tryd.prog 52 #[.string s] w
      fun e w' => e = .returned (.string ⟨(Dig.hex (Dig.sum s.data.toList)).toArray⟩) ∧ Below w.heap.size w w' := by
  have hlenc : bits .xor .u64 7046029254386353131 (s.size : Int) = ((7046029254386353131 ^^^ s.size : Nat) : Int) := bits_xor_u64_nat 7046029254386353131 s.size (by decide) (by omega)
  go_enter Tryd.func52, Tryd.ntmps52
  go_wp2
  go_loopw [5, 15] (fun x i wr => ∃ k p : Nat, k ≤ s.size / 8 + 1 ∧ Hid (p = k * 8) ∧ i = .int .i64 k ∧ x = .int .u64 (Dig.state s.data.toList k) ∧ w.heap.size + 2 ≤ wr.heap.size ∧ wr.cell? ⟨w.heap.size, 0, none⟩ = some (.string s) ∧ wr.cell? ⟨w.heap.size + 1, 0, none⟩ = some (.int .i64 (p : Int)) ∧ wr.frozen? ⟨w.heap.size + 1, 0, none⟩ = false ∧ Below w.heap.size w wr) (fun _ i _ => s.size / 8 + 1 - (intOf i).toNat)
  case atStart => exact ⟨0, 0, by omega, Lib.hid rfl, rfl, rfl, by simp, by simp, by simp, by simp, ((Below.refl _ _).alloc (Nat.le_refl _) _).alloc (by simp) _⟩
  case round =>
    obtain ⟨k, p, hk, Hp, rfl, rfl, hB, h1, h2, h3, hb⟩ := hrel
    by_cases hlt : k < s.size / 8 + 1
    · have hp : p ≤ s.size := by rw [Hp.out]; omega
      have hst : Dig.state s.data.toList k < 18446744073709551616 := Dig.state_lt _ (by show s.size < _; omega) k
      have hnb := Dig.num_blk_lt s.data.toList p
      obtain ⟨st, Hst⟩ : ∃ st, Hid (st = Dig.state s.data.toList k) := ⟨_, Lib.hid rfl⟩
      obtain ⟨nb, Hnb⟩ : ∃ nb, Hid (nb = Dig.num (Dig.blk s.data.toList p)) := ⟨_, Lib.hid rfl⟩
      rw [← Hst.out] at hst ⊢
      rw [← Hnb.out] at hnb
      have hx : bits .xor .u64 (st : Int) (nb : Int) = ((st ^^^ nb : Nat) : Int) := bits_xor_u64_nat st nb hst hnb
      have hxl := Dig.xor_lt hst hnb
      go_wp2_with fail
      refine (next_any s hs p hp w.heap.size (w.heap.size + 1) wr (by omega) (by omega) (by omega) h1 h2 h3).mono ?_
      rintro e w1 ⟨rfl, hb1⟩
      go_wp2_with fail
      refine (number_list (Dig.blk s.data.toList p) (Dig.blk_length _ _) w1).mono ?_
      rintro e w2 ⟨rfl, hb2⟩
      obtain ⟨g1, g2, g3, g4, g5⟩ := sum_keep hB h1 h2 h3 hb hb1 hb2
      clear hB h1 h2 h3 hb hb1 hb2
      rw [← Hnb.out]
      go_wp2_with fail
      refine (mix_any (st ^^^ nb) hxl w2).mono ?_
      rintro e w3 ⟨rfl, rfl⟩
      go_wp2
      go_roundw
      case rel => exact ⟨k + 1, p + 8, by omega, Lib.hid (by rw [Hp.out]; omega), by go_num, by rw [Hst.out, Hnb.out, Hp.out]; rfl, g5, g1, g2, g3, g4⟩
      case measure => simp [intOf]; omega
    · obtain rfl : k = s.size / 8 + 1 := by omega
      have hst : Dig.state s.data.toList (s.size / 8 + 1) < 18446744073709551616 := Dig.state_lt _ (by show s.size < _; omega) _
      go_wp2_with fail
      refine (digits_any _ hst wr).mono ?_
      rintro e w1 ⟨rfl, hb1⟩
      go_wp2
      go_ret
      exact ⟨rfl, hb.trans (hb1.mono (by omega))⟩

end Go.Proofs.YtfnbdjjobndgfaaDoor
