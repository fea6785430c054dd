/- The walk of the reference's joined text of a list. -/
import Derived.Test.YtfnbdjjobndgfaaDoorDecRef
import Derived.Test.YtfnbdjjobndgfaaDoorSgLists
namespace Go.Proofs.YtfnbdjjobndgfaaDoor
open Go.RowKit

theorem bytes_convert (w : World) (v : Value) (B : Nat) (l : List UInt8) (h : w.ownsRow B 5 1 v l.length (Lib.byteCells l)) :
    (convert 71 9 v).run Tryd.prog w = .ok (.string ⟨l.toArray⟩) w := by
  rcases h.2 with ⟨rfl, h0⟩ | ⟨g, cap, cur, rfl, _, hg, _, _, hcs, htk⟩
  · obtain rfl : l = [] := List.length_eq_zero_iff.1 h0
    exact run_convert_bytes_nil (P := Tryd.prog) w 71 5 Tryd.underlying71 Tryd.underlying5 0 0 9 Tryd.underlying9
  · have := run_convert_bytes_arg (P := Tryd.prog) w 71 5 Tryd.underlying71 Tryd.underlying5 g 0 l.length cap (l.map fun c => (c.toNat : Int)) (by simp) ?_ 9 Tryd.underlying9
    · rw [strOfNums_bytes] at this; exact this
    · intro i hi
      have h1 : (cur.toList.take (l.length * 1))[i]? = (Lib.byteCells l)[i]? := by rw [htk]
      rw [List.getElem?_take, if_pos (by omega)] at h1
      rw [Nat.zero_add, Lib.cell_of_heap hg]
      have h2 : (Lib.byteCells l)[i]? = some (.int .u8 (l[i].toNat : Int)) := by simp [Lib.byteCells, hi]
      rw [h2] at h1
      simpa [hi] using h1

theorem joinText_take_le' (ss : List ByteArray) (hf : fewB ss 300 = true) (k : Nat) : (joinText ((bytesOf ss).take k)).length ≤ 9630 := by
  obtain ⟨h200, h30⟩ := (fewB_iff _ _).1 hf
  refine Nat.le_trans (joinText_take_le _ _) (joinText_le _ ?_ (by simpa [bytesOf] using h30))
  intro s hs
  obtain ⟨a, ha, rfl⟩ := List.mem_map.1 hs
  have := h200 a ha
  have e : a.data.toList.length = a.size := rfl
  rw [e]; omega

set_option maxRecDepth 100000 in
set_option maxHeartbeats 4000000 in
theorem refJoined_any (ao : Option Addr) (ss : List ByteArray) (cap : Nat) (w : World) (hl : IsStrs w ao ss) (hf : fewB ss 300 = true) :
    Calls Tryd.prog 44 #[.slice ao ss.length cap] w fun e w' => e = .returned (.string ⟨(joinText (bytesOf ss)).toArray⟩) ∧ Below w.heap.size w w' := by
  obtain ⟨h200, h30⟩ := (fewB_iff _ _).1 hf
  obtain ⟨i0, hi, hz0, hz1, hz2⟩ := info_parts infoByte
  obtain ⟨n, Hn⟩ : ∃ n, Hid (n = ss.length) := ⟨_, Lib.hid rfl⟩
  have H := Lib.hid hl
  have Hf := Lib.hid hf
  have H200 := Lib.hid h200
  clear hl hf h200
  rw [← Hn.out] at h30 ⊢
  go_enter Tryd.func44, Tryd.ntmps44
  go_wp2
  go_loop [3, 4] (fun s i => ∃ k z : Nat, k ≤ n ∧ i = .int .i64 k ∧ s = .int .i64 z ∧ z ≤ k * 321) (fun _ i => n - (intOf i).toNat)
  case atStart => exact ⟨0, 0, Nat.zero_le _, rfl, rfl, by omega⟩
  case round =>
    obtain ⟨k, z, hk, rfl, rfl, hz⟩ := hrel
    by_cases hlt : k < n
    · have hkl : k < ss.length := by rw [← Hn.out]; exact hlt
      rcases H.out with he | ⟨bk, off, rfl, _, hc⟩
      · subst he; exact absurd hkl (by simp)
      obtain ⟨s, Hs⟩ : ∃ s, Hid (s = ss[k]'hkl) := ⟨_, Lib.hid rfl⟩
      have hck : w.cell? ⟨bk, off + k, none⟩ = some (.string s) := by rw [hc k hkl, Hs.out]
      have hs : (s.size : Int) ≤ 300 := by rw [Hs.out]; exact H200.out _ (List.getElem_mem hkl)
      clear hc
      go_wp2
      go_round
      case rel => exact ⟨k + 1, z + (s.size + 21), by omega, by go_num, by go_num, by omega⟩
      case measure => simp [intOf]; omega
    · go_wp2_with (at_make; refine wpList_make_own _ rfl _ _ 71 rfl w.heap.size 5 i0 (.int .u8 0) 1 Tryd.underlying71 hi hz0 hz1 .i64 .i64 _ z rfl rfl rfl (by rw [hz2]; omega) (by unfold maxLen; omega) (Nat.le_refl _) ?_; intro w1 hown0 hgrow0)
      have hb0 : Below w.heap.size w w1 := (Below.refl _ _).grown hgrow0 (Nat.le_refl _) (fun k hk => by cases hk)
      clear hgrow0 hk hlt
      go_loopw [5, 6] (fun v i wr => ∃ k : Nat, k ≤ n ∧ i = .int .i64 k ∧ wr.ownsRow w.heap.size 5 1 v (joinText ((bytesOf ss).take k)).length (Lib.byteCells (joinText ((bytesOf ss).take k))) ∧ Below w.heap.size w wr) (fun _ i _ => n - (intOf i).toNat)
      case atStart => exact ⟨0, Nat.zero_le _, rfl, hown0, hb0⟩
      case round =>
        obtain ⟨k, hk, rfl, hown, hb⟩ := hrel
        by_cases hlt : k < n
        · have hkl : k < ss.length := by rw [← Hn.out]; exact hlt
          rcases H.out with he | ⟨bk, off, rfl, hbk, hc⟩
          · subst he; exact absurd hkl (by simp)
          obtain ⟨s, Hs⟩ : ∃ s, Hid (s = ss[k]'hkl) := ⟨_, Lib.hid rfl⟩
          have hck : wr.cell? ⟨bk, off + k, none⟩ = some (.string s) := by rw [hb.cell (p := ⟨bk, off + k, none⟩) hbk, hc k hkl, Hs.out]
          clear hc
          have Hnew : Hid (joinText ((bytesOf ss).take (k + 1)) = joinText ((bytesOf ss).take k) ++ (Lib.decDigits s.size ++ [58] ++ s.data.toList)) := by
            have hh := joinText_take (bytesOf ss) k (by simpa [bytesOf] using hkl)
            rw [hh]
            have e1 : (bytesOf ss)[k]'(by simpa [bytesOf] using hkl) = s.data.toList := by rw [Hs.out]; simp [bytesOf]
            rw [e1]
            exact Lib.hid rfl
          have Hlen := Lib.hid (joinText_take_le' ss Hf.out (k + 1))
          obtain ⟨acc, Hacc⟩ : ∃ acc, Hid (acc = joinText ((bytesOf ss).take k)) := ⟨_, Lib.hid rfl⟩
          rw [← Hacc.out] at hown
          have hlen : acc.length + ((Lib.decDigits s.size).length + 1 + s.size) ≤ 9630 := by
            have h1 := Hlen.out
            rw [Hnew.out, ← Hacc.out] at h1
            simp only [List.length_append, List.length_cons, List.length_nil] at h1
            have h3 : s.data.toList.length = s.size := rfl
            omega
          have z0 := hb.size
          have Hck : Hid (w.cell? ⟨bk, off + k, none⟩ = some (.string s)) := by rw [hb.cell (p := ⟨bk, off + k, none⟩) hbk] at hck; exact Lib.hid hck
          go_wp2_with fail
          refine (refDecimal_any s.size (by omega) _).mono ?_
          rintro e _ ⟨rfl, rfl⟩
          go_wp2_with (at_builtin; refine Lib.wpList_append_own_string _ rfl _ _ 71 9 rfl w.heap.size 5 i0 Tryd.underlying71 Tryd.underlying9 hi hz0 hz1 hz2 _ _ _ rfl hown ⟨(Lib.decDigits s.size).toArray⟩ rfl ?c3 ?c4 ?c5 ?_)
          case c3 => unfold maxLen; rw [ByteArray.size_mk', List.size_toArray]; omega
          case c4 => rw [ByteArray.size_mk', List.size_toArray]; omega
          case c5 => exact z0
          intro v1 w1 hown1 hgrow1 _
          have hb1 : Below w.heap.size w w1 := hb.grown hgrow1 z0 (fun k hk => (hown.lt k hk).1)
          have z1 := hb1.size
          clear hgrow1 hown hb hck z0
          go_wp2_with (at_builtin; refine wpList_append_own _ rfl _ _ 71 rfl w.heap.size 5 i0 (.int .u8 0) 1 1 Tryd.underlying71 hi hz0 hz1 hz2 rfl (by decide) _ _ _ rfl (hown1.alloc _) ⟨w1.heap.size, 0, none⟩ 1 1 [.int .u8 58] rfl rfl ?d1 ?d2 ?d3 ?d4 ?d5 ?_)
          case d1 =>
            intro j u hj
            match j, hj with
            | 0, hj => simp at hj; subst hj; simp [Addr.add]
          case d2 => intro u hu; simp at hu; subst hu; rfl
          case d3 => unfold maxLen; omega
          case d4 => omega
          case d5 => rw [size_alloc]; omega
          intro v2 w2 hown2 hgrow2 _
          have hb2 : Below w.heap.size w w2 := (hb1.alloc z1 _).grown hgrow2 (by rw [size_alloc]; omega) (fun k hk => (hown1.lt k hk).1)
          have hck : w2.cell? ⟨bk, off + k, none⟩ = some (.string s) := by rw [hb2.cell (p := ⟨bk, off + k, none⟩) hbk, Hck.out]
          have z2 := hb2.size
          clear hgrow2 hown1 hb1 z1
          go_wp2_with (at_builtin; refine Lib.wpList_append_own_string _ rfl _ _ 71 9 rfl w.heap.size 5 i0 Tryd.underlying71 Tryd.underlying9 hi hz0 hz1 hz2 _ _ _ rfl hown2 s rfl ?e3 ?e4 ?e5 ?_)
          case e3 => unfold maxLen; omega
          case e4 => omega
          case e5 => exact z2
          intro v3 w3 hown3 hgrow3 _
          have hb3 : Below w.heap.size w w3 := hb2.grown hgrow3 z2 (fun k hk => (hown2.lt k hk).1)
          clear hgrow3 hown2 hb2 z2 hck
          have hown4 : w3.ownsRow w.heap.size 5 1 v3 (joinText ((bytesOf ss).take (k + 1))).length (Lib.byteCells (joinText ((bytesOf ss).take (k + 1)))) := by
            have e1 : Lib.byteCells acc ++ Lib.strCells ⟨(Lib.decDigits s.size).toArray⟩ ++ [Value.int .u8 58] ++ Lib.strCells s = Lib.byteCells (joinText ((bytesOf ss).take (k + 1))) := by
              rw [Hnew.out, ← Hacc.out]; simp [Lib.byteCells, Lib.strCells]
            have e2 : (joinText ((bytesOf ss).take (k + 1))).length = acc.length + (Lib.decDigits s.size).length + 1 + s.size := by
              rw [Hnew.out, ← Hacc.out]
              have h3 : s.data.toList.length = s.size := rfl
              simp only [List.length_append, List.length_cons, List.length_nil, h3]; omega
            rw [← e1, e2]; simpa using hown3
          clear hown3
          go_wp2
          go_roundw
          case rel => exact ⟨k + 1, by omega, by go_num, hown4, hb3⟩
          case measure => simp [intOf]; omega
        · obtain rfl : k = n := by omega
          have hfin : (bytesOf ss).take k = bytesOf ss := List.take_of_length_le (by rw [Hn.out]; simp [bytesOf])
          rw [hfin] at hown
          have hconv := bytes_convert wr _ _ _ hown
          clear hfin hown
          go_wp2
          go_ret
          exact ⟨rfl, hb⟩

end Go.Proofs.YtfnbdjjobndgfaaDoor
