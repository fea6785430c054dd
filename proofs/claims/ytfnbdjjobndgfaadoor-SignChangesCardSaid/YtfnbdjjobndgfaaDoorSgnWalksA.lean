/- The walks of package sign: heights, digits, chains, starts, keys and nodes. -/
import Derived.Test.YtfnbdjjobndgfaaDoorSgnMath
import Derived.Test.YtfnbdjjobndgfaaDoorGrown
namespace Go.Proofs.YtfnbdjjobndgfaaDoor
open Go.RowKit

theorem isHeight_any (h : Int) (w : World) : Calls Tryd.prog 26 #[.int .i64 h] w fun e w' => e = .returned (.bool (decide (0 ≤ h) && decide (h ≤ 8))) ∧ w = w' := by
  by_cases h0 : 0 ≤ h
  · have h1 : decide (0 ≤ h) = true := decide_eq_true h0
    rw [h1]
    clear h1
    go_enter Tryd.func26, Tryd.ntmps26
    go_wp2
    go_ret
    exact ⟨rfl, rfl⟩
  · have h1 : decide (0 ≤ h) = false := decide_eq_false h0
    rw [h1]
    clear h1
    go_enter Tryd.func26, Tryd.ntmps26
    go_wp2
    go_ret
    exact ⟨rfl, rfl⟩

theorem value_any (c : UInt8) (h : Dig.isHex c = true) (w : World) : Calls Tryd.prog 53 #[.int .u8 c.toNat] w fun e w' => e = .returned (.int .i64 (Sgn.valN c)) ∧ w = w' := by
  have hx := of_decide_eq_true h
  obtain ⟨n, Hn⟩ : ∃ n, Hid (n = c.toNat) := ⟨_, Lib.hid rfl⟩
  obtain ⟨v, Hv⟩ : ∃ n, Hid (n = Sgn.valN c) := ⟨_, Lib.hid rfl⟩
  rw [← Hn.out] at hx ⊢
  rw [← Hv.out]
  clear h
  by_cases h97 : (97 : Int) ≤ n
  · have HE : Hid ((v : Int) = (n : Int) - 97 + 10) := Lib.hid (by rw [Hv.out]; unfold Sgn.valN; rw [← Hn.out, if_pos (by omega)]; omega)
    go_enter Tryd.func53, Tryd.ntmps53
    go_wp2
    go_ret
    exact ⟨by rw [HE.out] <;> rfl, rfl⟩
  · have HE : Hid ((v : Int) = (n : Int) - 48) := Lib.hid (by rw [Hv.out]; unfold Sgn.valN; rw [← Hn.out, if_neg (by omega)]; omega)
    go_enter Tryd.func53, Tryd.ntmps53
    go_wp2
    go_ret
    exact ⟨by rw [HE.out] <;> rfl, rfl⟩

theorem chain_any (s : ByteArray) (hs : s.size ≤ 140737488351232) (n : Nat) (hn : n ≤ 1000) (w : World) :
    Calls Tryd.prog 31 #[.string s, .int .i64 n] w fun e w' => e = .returned (.string (Sgn.chainV n s)) ∧ Below w.heap.size w w' := by
  have HS : Hid (∀ k, (Sgn.chainV k s).size ≤ 140737488351232) := Lib.hid fun k => by
    cases k with
    | zero => exact hs
    | succ k => show (Sgn.dg _).size ≤ _; rw [Sgn.dg_size]; decide
  clear hs
  go_enter Tryd.func31, Tryd.ntmps31
  go_wp2
  go_loopw [0, 6] (fun t i wr => ∃ k : Nat, k ≤ n ∧ i = .int .i64 k ∧ ∃ x, t = .string x ∧ Hid (x = Sgn.chainV k s) ∧ Hid (Below w.heap.size w wr)) (fun _ i _ => n - (intOf i).toNat)
  case atStart => exact ⟨0, by omega, rfl, s, rfl, Lib.hid rfl, Lib.hid (Below.refl _ _)⟩
  case round =>
    obtain ⟨k, hk, rfl, x, rfl, HX, HB⟩ := hrel
    by_cases hlt : k < n
    · have hlt' : (k : Int) < n := by omega
      have HC := Lib.hid (sumD_any x (by rw [HX.out]; exact HS.out k) wr)
      obtain ⟨y, Hy⟩ : ∃ y, Hid (y = digestOf x.data.toList) := ⟨_, Lib.hid rfl⟩
      rw [← Hy.out] at HC
      go_wp2_with fail
      refine HC.out.mono ?_
      rintro e w2 ⟨rfl, hb⟩
      have HB2 := Lib.hid (HB.out.trans (hb.mono HB.out.size))
      clear hb
      go_wp2
      go_roundw
      case rel => exact ⟨k + 1, by omega, by go_num, y, rfl, Lib.hid (by rw [Hy.out, HX.out] <;> rfl), HB2⟩
      case measure => simp [intOf]; omega
    · obtain rfl : n = k := by omega
      go_wp2
      go_ret
      exact ⟨by rw [HX.out] <;> rfl, HB.out⟩

theorem strs3 {W : World} {g : Nat} {a b c : ByteArray} (h0 : W.cell? ⟨g, 0, none⟩ = some (.string a)) (h1 : W.cell? ⟨g, 1, none⟩ = some (.string b)) (h2 : W.cell? ⟨g, 2, none⟩ = some (.string c)) : IsStrs W (some ⟨g, 0, none⟩) [a, b, c] := by
  refine Or.inr ⟨g, 0, rfl, lt_of_cell h0, fun k hk => ?_⟩
  have hk' : k < 3 := hk
  match k, hk' with
  | 0, _ => exact h0
  | 1, _ => exact h1
  | 2, _ => exact h2
theorem decT_size (n : Nat) (h : n < 1000) : (Sgn.decT n).size ≤ 20 := by
  have := decDigits_le n h
  unfold Sgn.decT
  show (Lib.decDigits n).toArray.size ≤ 20
  simpa using this
theorem few3 {a b c : ByteArray} (ha : a.size ≤ 300) (hb : b.size ≤ 300) (hc : c.size ≤ 300) : fewB [a, b, c] 300 = true := by
  refine (fewB_iff _ _).2 ⟨fun s hs => ?_, by simp⟩
  simp only [List.mem_cons, List.not_mem_nil, or_false] at hs
  rcases hs with rfl | rfl | rfl <;> omega

set_option maxHeartbeats 1000000 in
theorem start_any (sec : ByteArray) (hs : sec.size ≤ 300) (i k : Nat) (hi : i < 1000) (hk : k < 1000) (w : World) (ht : Tab w) :
    Calls Tryd.prog 32 #[.string sec, .int .i64 i, .int .i64 k] w fun e w' => e = .returned (.string (Sgn.startV sec i k)) ∧ Below w.heap.size w w' := by
  have HT := Lib.hid ht
  clear ht
  go_enter Tryd.func32, Tryd.ntmps32
  go_wp2_with fail
  refine (itoa_any i (by omega) w HT.out).mono ?_
  rintro e w1 ⟨rfl, hb⟩
  have HB1 := Lib.hid hb
  clear hb
  go_wp2_with fail
  refine (itoa_any k (by omega) w1 (HT.out.below HB1.out)).mono ?_
  rintro e w2 ⟨rfl, hb⟩
  have HB2 := Lib.hid (HB1.out.trans (hb.mono HB1.out.size))
  clear hb
  go_wp2_with fail
  have hw : Below w2.heap.size w2 (w2.alloc (.cells #[.string sec, .string (Sgn.decT i), .string (Sgn.decT k)] 9)) := (Below.refl _ _).alloc (Nat.le_refl _) _
  have hL := list_any (some ⟨w2.heap.size, 0, none⟩) [sec, Sgn.decT i, Sgn.decT k] 3 (w2.alloc (.cells #[.string sec, .string (Sgn.decT i), .string (Sgn.decT k)] 9)) ((HT.out.below HB2.out).below hw) (strs3 (by rw [cell_alloc, if_pos rfl] <;> rfl) (by rw [cell_alloc, if_pos rfl] <;> rfl) (by rw [cell_alloc, if_pos rfl] <;> rfl)) (few3 hs (by have := decT_size i hi; omega) (by have := decT_size k hk; omega))
  refine hL.mono ?_
  rintro e w3 ⟨rfl, hb⟩
  have HB3 := Lib.hid (HB2.out.trans ((hw.trans (hb.mono hw.size)).mono HB2.out.size))
  clear hb hL hw
  go_wp2
  go_ret
  exact ⟨rfl, HB3.out⟩

set_option maxHeartbeats 1000000 in
theorem node_any (a b : ByteArray) (ha : a.size ≤ 300) (hb : b.size ≤ 300) (w : World) (ht : Tab w) :
    Calls Tryd.prog 40 #[.string a, .string b] w fun e w' => e = .returned (.string (Sgn.nodeV a b)) ∧ Below w.heap.size w w' := by
  have HT := Lib.hid ht
  clear ht
  go_enter Tryd.func40, Tryd.ntmps40
  go_wp2_with fail
  have hw : Below w.heap.size w (w.alloc (.cells #[.string Sgn.nodeT, .string a, .string b] 9)) := (Below.refl _ _).alloc (Nat.le_refl _) _
  have hL := list_any (some ⟨w.heap.size, 0, none⟩) [Sgn.nodeT, a, b] 3 (w.alloc (.cells #[.string Sgn.nodeT, .string a, .string b] 9)) (HT.out.below hw) (strs3 (by rw [cell_alloc, if_pos rfl] <;> rfl) (by rw [cell_alloc, if_pos rfl] <;> rfl) (by rw [cell_alloc, if_pos rfl] <;> rfl)) (few3 (by decide) ha hb)
  refine hL.mono ?_
  rintro e w3 ⟨rfl, hb⟩
  have HB3 := Lib.hid (hw.trans (hb.mono hw.size))
  clear hb hL hw
  go_wp2
  go_ret
  exact ⟨rfl, HB3.out⟩

theorem key_any (ao : Option Addr) (ss : List ByteArray) (cap : Nat) (w : World) (ht : Tab w) (h : IsStrs w ao ss) (hf : fewB ss 300 = true) :
    Calls Tryd.prog 39 #[.slice ao ss.length cap] w fun e w' => e = .returned (.string (Sgn.lst ss)) ∧ Below w.heap.size w w' := by
  have HL := Lib.hid (list_any ao ss cap w ht h hf)
  obtain ⟨n, Hn⟩ : ∃ n, Hid (n = ss.length) := ⟨_, Lib.hid rfl⟩
  rw [← Hn.out] at HL ⊢
  clear ht h hf
  go_enter Tryd.func39, Tryd.ntmps39
  go_wp2_with fail
  refine HL.out.mono ?_
  rintro e w1 ⟨rfl, hb⟩
  have HB1 := Lib.hid hb
  clear hb
  go_wp2
  go_ret
  exact ⟨rfl, HB1.out⟩

theorem strs_at {W : World} {ao : Option Addr} {ss : List ByteArray} (h : IsStrs W ao ss) {k : Nat} (hk : k < ss.length) : ∃ bk off, ao = some ⟨bk, off, none⟩ ∧ bk < W.heap.size ∧ ∀ q, (hq : q < ss.length) → W.cell? ⟨bk, off + q, none⟩ = some (.string ss[q]) := by
  rcases h with h | ⟨bk, off, h1, h2, h3⟩
  · subst h; simp at hk
  · exact ⟨bk, off, h1, h2, h3⟩

set_option maxHeartbeats 1000000 in
theorem areDigests_any (ao : Option Addr) (ss : List ByteArray) (cap : Nat) (hn : ss.length ≤ 140737488351232) (hz : ∀ s ∈ ss, s.size ≤ 140737488351232) (w : World) (h : IsStrs w ao ss) :
    Calls Tryd.prog 38 #[.slice ao ss.length cap] w fun e w' => e = .returned (.bool (ss.all fun s => Dig.isB s.data.toList)) ∧ w = w' := by
  obtain ⟨n, Hn⟩ : ∃ n, Hid (n = ss.length) := ⟨_, Lib.hid rfl⟩
  obtain ⟨r, Hr⟩ : ∃ n, Hid (n = ss.all fun s => Dig.isB s.data.toList) := ⟨_, Lib.hid rfl⟩
  have HS := Lib.hid h
  have HZ := Lib.hid hz
  rw [← Hn.out] at hn ⊢
  rw [← Hr.out]
  clear h hz
  go_enter Tryd.func38, Tryd.ntmps38
  go_wp2
  go_loop [7] (fun i => ∃ k : Nat, k ≤ n ∧ i = .int .i64 k ∧ Hid (∀ q, (hq : q < ss.length) → q < k → Dig.isB ss[q].data.toList = true)) (fun i => n - (intOf i).toNat)
  case atStart => exact ⟨0, by omega, rfl, Lib.hid fun q _ h => by omega⟩
  case round =>
    obtain ⟨k, hk, rfl, HA⟩ := hrel
    by_cases hlt : k < n
    · have hlt' : (k : Int) < n := by omega
      have hks : k < ss.length := by rw [← Hn.out]; exact hlt
      obtain ⟨bk, off, rfl, hbk, hc⟩ := strs_at HS.out hks
      have d1 := hc k hks
      obtain ⟨s, Hs⟩ : ∃ s, Hid (s = ss[k]) := ⟨_, Lib.hid rfl⟩
      rw [← Hs.out] at d1
      have HI := Lib.hid (is_any s (by rw [Hs.out]; exact HZ.out _ (List.getElem_mem _)) w)
      obtain ⟨b, Hb⟩ : ∃ b, Hid (b = Dig.isB s.data.toList) := ⟨_, Lib.hid rfl⟩
      rw [← Hb.out] at HI
      clear hc hbk
      cases b
      · have HE : Hid (r = false) := Lib.hid (by
          rw [Hr.out]
          refine List.all_eq_false.2 ⟨s, by rw [Hs.out]; exact List.getElem_mem _, by rw [← Hb.out]; simp⟩)
        go_wp2_with fail
        refine HI.out.mono ?_
        rintro e _ ⟨rfl, rfl⟩
        go_wp2
        go_ret
        exact ⟨ret_bool HE.out.symm, rfl⟩
      · go_wp2_with fail
        refine HI.out.mono ?_
        rintro e _ ⟨rfl, rfl⟩
        go_wp2
        go_round
        case rel => exact ⟨k + 1, by omega, by go_num, Lib.hid fun q h1 h2 => by
          by_cases e : q = k
          · subst e; rw [← Hs.out, ← Hb.out]
          · exact HA.out q h1 (by omega)⟩
        case measure => simp [intOf]; omega
    · have HE : Hid (r = true) := Lib.hid (by
        rw [Hr.out]
        refine List.all_eq_true.2 fun s hs => ?_
        obtain ⟨q, hq, rfl⟩ := List.getElem_of_mem hs
        exact HA.out q hq (by have := Hn.out; omega))
      obtain rfl : n = k := by omega
      go_wp2
      go_ret
      exact ⟨ret_bool HE.out.symm, rfl⟩

end Go.Proofs.YtfnbdjjobndgfaaDoor
