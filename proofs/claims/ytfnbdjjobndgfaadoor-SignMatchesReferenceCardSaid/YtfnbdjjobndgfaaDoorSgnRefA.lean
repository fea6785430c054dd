/- The walks of the reference of package sign: chains, starts, keys, powers, levels. -/
import Derived.Test.YtfnbdjjobndgfaaDoorSgnTree
import Derived.Test.YtfnbdjjobndgfaaDoorSgMatches
import Derived.Test.YtfnbdjjobndgfaaDoorDecRef
namespace Go.Proofs.YtfnbdjjobndgfaaDoor
open Go.RowKit

theorem refChain_any (s : ByteArray) (hs : s.size ≤ 140737488351232) (n : Nat) (hn : n ≤ 1000) (w : World) :
    Calls Tryd.prog 35 #[.string s, .int .i64 n] w fun e w' => e = .returned (.string (Sgn.chainV n s)) ∧ w = w' := by
  have HS : Hid (∀ k, (Sgn.chainV k s).size ≤ 140737488351232) := Lib.hid fun k => by
    cases k with
    | zero => exact hs
    | succ k => show (Sgn.dg _).size ≤ _; rw [Sgn.dg_size]; decide
  clear hs
  go_enter Tryd.func35, Tryd.ntmps35
  go_wp2
  go_loop [0, 5] (fun t i => ∃ k : Nat, k ≤ n ∧ i = .int .i64 k ∧ ∃ x, t = .string x ∧ Hid (x = Sgn.chainV k s)) (fun _ i => n - (intOf i).toNat)
  case atStart => exact ⟨0, by omega, rfl, s, rfl, Lib.hid rfl⟩
  case round =>
    obtain ⟨k, hk, rfl, x, rfl, HX⟩ := hrel
    by_cases hlt : k < n
    · have hlt' : (k : Int) < n := by omega
      have HC := Lib.hid (refSum_any x (by rw [HX.out]; exact HS.out k) w)
      obtain ⟨y, Hy⟩ : ∃ y, Hid (y = digestOf x.data.toList) := ⟨_, Lib.hid rfl⟩
      rw [← Hy.out] at HC
      go_wp2_with fail
      refine HC.out.mono ?_
      rintro e _ ⟨rfl, rfl⟩
      go_wp2
      go_round
      case rel => exact ⟨k + 1, by omega, by go_num, y, rfl, Lib.hid (by rw [Hy.out, HX.out] <;> rfl)⟩
      case measure => simp [intOf]; omega
    · obtain rfl : n = k := by omega
      go_wp2
      go_ret
      exact ⟨by rw [HX.out] <;> rfl, rfl⟩

set_option maxHeartbeats 1000000 in
theorem refStart_any (sec : ByteArray) (hs : sec.size ≤ 300) (i k : Nat) (hi : i < 1000) (hk : k < 1000) (w : World) :
    Calls Tryd.prog 36 #[.string sec, .int .i64 i, .int .i64 k] w fun e w' => e = .returned (.string (Sgn.startV sec i k)) ∧ Below w.heap.size w w' := by
  go_enter Tryd.func36, Tryd.ntmps36
  go_wp2_with fail
  refine (refDecimal_any i (by omega) w).mono ?_
  rintro e _ ⟨rfl, rfl⟩
  go_wp2_with fail
  refine (refDecimal_any k (by omega) w).mono ?_
  rintro e _ ⟨rfl, rfl⟩
  go_wp2_with fail
  have hw : Below w.heap.size w (w.alloc (.cells #[.string sec, .string (Sgn.decT i), .string (Sgn.decT k)] 9)) := (Below.refl _ _).alloc (Nat.le_refl _) _
  have hL := refList_any (some ⟨w.heap.size, 0, none⟩) [sec, Sgn.decT i, Sgn.decT k] 3 (w.alloc (.cells #[.string sec, .string (Sgn.decT i), .string (Sgn.decT k)] 9)) (strs3 (by rw [cell_alloc, if_pos rfl] <;> rfl) (by rw [cell_alloc, if_pos rfl] <;> rfl) (by rw [cell_alloc, if_pos rfl] <;> rfl)) (few3 hs (by have := decT_size i hi; omega) (by have := decT_size k hk; omega))
  refine hL.mono ?_
  rintro e w3 ⟨rfl, hb⟩
  have HB3 := Lib.hid (hw.trans (hb.mono hw.size))
  clear hb hL hw
  go_wp2
  go_ret
  exact ⟨rfl, HB3.out⟩

theorem refPower_any (n : Nat) (hn : n ≤ 8) (w : World) :
    Calls Tryd.prog 33 #[.int .i64 n] w fun e w' => e = .returned (.int .i64 ((2 ^ n : Nat) : Int)) ∧ w = w' := by
  obtain ⟨r, Hr⟩ : ∃ r, Hid (r = 2 ^ n) := ⟨_, Lib.hid rfl⟩
  rw [← Hr.out]
  go_enter Tryd.func33, Tryd.ntmps33
  go_wp2
  go_loop [3, 4] (fun o i => ∃ k : Nat, k ≤ n ∧ i = .int .i64 k ∧ ∃ x : Nat, o = .int .i64 x ∧ x ≤ 256 ∧ Hid (x = 2 ^ k)) (fun _ i => n - (intOf i).toNat)
  case atStart => exact ⟨0, by omega, rfl, 1, rfl, by decide, Lib.hid rfl⟩
  case round =>
    obtain ⟨k, hk, rfl, x, rfl, hx, HX⟩ := hrel
    by_cases hlt : k < n
    · have hlt' : (k : Int) < n := by omega
      go_wp2
      go_round
      case rel =>
        have e : 2 * x = 2 ^ (k + 1) := by rw [HX.out, Nat.pow_succ]; omega
        have h8 : 2 ^ (k + 1) ≤ 2 ^ 8 := Nat.pow_le_pow_right (by decide) (by omega)
        exact ⟨k + 1, by omega, by go_num, 2 * x, by go_num, by rw [e]; exact h8, Lib.hid e⟩
      case measure => simp [intOf]; omega
    · obtain rfl : n = k := by omega
      go_wp2
      go_ret
      exact ⟨by rw [Hr.out, HX.out] <;> rfl, rfl⟩

theorem newCell (X : World) (s : ByteArray) : ∀ (i : Nat) (u : Value), [Value.string s][i]? = some u → (X.alloc (.cells #[.string s] 9)).cell? ((⟨X.heap.size, 0, none⟩ : Addr).add i) = some u := by
  intro i u hu
  have e : (⟨X.heap.size, 0, none⟩ : Addr).add i = ⟨X.heap.size, i, none⟩ := by unfold Addr.add; split <;> simp_all
  rw [e, cell_alloc, if_pos rfl]
  simpa using hu

set_option maxHeartbeats 4000000 in
theorem refKey_any (sec : ByteArray) (hs : sec.size ≤ 300) (i : Nat) (hi : i < 1000) (w : World) :
    Calls Tryd.prog 50 #[.string sec, .int .i64 i] w fun e w' => e = .returned (.string (Sgn.keyV sec i)) ∧ Below w.heap.size w w' := by
  obtain ⟨i1, hi1, hy0, hy1, hy2⟩ := info_parts info_str
  obtain ⟨kv, Hkv⟩ : ∃ x, Hid (x = Sgn.keyV sec i) := ⟨_, Lib.hid rfl⟩
  rw [← Hkv.out]
  go_enter Tryd.func50, Tryd.ntmps50
  go_wp2
  go_loopw [5, 6] (fun v a wr => ∃ k : Nat, k ≤ 18 ∧ a = .int .i64 k ∧ ∃ eo ec, v = .slice eo k ec ∧ Hid (Below w.heap.size w wr ∧ wr.ownsRow w.heap.size 9 1 (.slice eo k ec) k (strC (endsUp sec i k)))) (fun _ a _ => 18 - (intOf a).toNat)
  case atStart => exact ⟨0, by omega, rfl, none, 0, rfl, Lib.hid ⟨Below.refl _ _, World.ownsRow_nil _ _ _ _⟩⟩
  case round =>
    obtain ⟨k, hk, rfl, eo, ec, rfl, HE⟩ := hrel
    by_cases hltk : k < 18
    · have hltk' : (k : Int) < 18 := by omega
      go_wp2_with fail
      refine (refStart_any sec hs i k hi (by omega) wr).mono ?_
      rintro e w2 ⟨rfl, hb⟩
      have HB2 := Lib.hid hb
      clear hb
      obtain ⟨sv, Hsv⟩ : ∃ x, Hid (x = Sgn.startV sec i k) := ⟨_, Lib.hid rfl⟩
      rw [← Hsv.out]
      have HC := Lib.hid (refChain_any sv (by rw [Hsv.out, startV_size]; decide) 15 (by decide) w2)
      obtain ⟨cv, Hcv⟩ : ∃ x, Hid (x = Sgn.chainV 15 sv) := ⟨_, Lib.hid rfl⟩
      rw [← Hcv.out] at HC
      go_wp2_with fail
      refine HC.out.mono ?_
      rintro e _ ⟨rfl, rfl⟩
      have HR3 : Hid (w2.ownsRow w.heap.size 9 1 (.slice eo k ec) k (strC (endsUp sec i k))) := Lib.hid (owns_grown HE.out.2 HB2.out)
      have HBo3 : Hid (Below w.heap.size w w2) := Lib.hid (below_step HE.out.1 HB2.out)
      have HNw := Lib.hid (newCell w2 cv)
      go_wp2_with (at_builtin; go_loud (refine wpList_append_own _ rfl (.tmp 11) (.tmp 17) 22 rfl w.heap.size 9 i1 (.string ⟨#[]⟩) 1 16 Tryd.underlying22 hi1 hy0 hy1 hy2 rfl (by decide) _ _ _ rfl (HR3.out.alloc _) ⟨w2.heap.size, 0, none⟩ 1 1 [.string cv] rfl rfl HNw.out (by simp [Value.oneCell']) (by unfold maxLen; omega) (by omega) (by have := HBo3.out.size; rw [size_alloc]; omega) ?_); intro v' w10 hown hgrow _; obtain ⟨g', cap', rfl⟩ := owns_succ' hown; have HW10 := Lib.hid hown; have HG10 := Lib.hid hgrow; clear hown hgrow)
      go_roundw
      case rel =>
        refine ⟨k + 1, by omega, by go_num, some ⟨g', 0, none⟩, cap', rfl, Lib.hid ⟨?_, ?_⟩⟩
        · exact (HBo3.out.alloc HBo3.out.size _).grown HG10.out (by have := HBo3.out.size; rw [size_alloc]; omega) (fun j e => (HR3.out.lt j e).1)
        · rw [endsUp_succ, strC_snoc, ← Hsv.out, ← Hcv.out]
          exact HW10.out
      case measure => simp [intOf]; omega
    · obtain rfl : k = 18 := by omega
      have HSt : Hid (IsStrs wr eo (endsUp sec i 18)) := Lib.hid (strs_of_row HE.out.2 (by simp [endsUp]))
      have hL := refList_any eo (endsUp sec i 18) ec wr HSt.out (fewE (fun s hs => by
        obtain ⟨q, _, rfl⟩ := List.mem_map.1 hs
        rw [chain15_size _ _ (startV_size _ _ _)]; decide) (by simp [endsUp]))
      have hl18 : (endsUp sec i 18).length = 18 := by simp [endsUp]
      rw [hl18] at hL
      have ek : digestOf (joinText (bytesOf (endsUp sec i 18))) = kv := by rw [Hkv.out]; rfl
      rw [ek] at hL
      have HKey := Lib.hid hL
      clear hL hl18 ek
      go_wp2_with fail
      refine HKey.out.mono ?_
      rintro e w2 ⟨rfl, hb⟩
      have HB2 := Lib.hid (below_step HE.out.1 hb)
      clear hb
      go_wp2
      go_ret
      exact ⟨rfl, HB2.out⟩

set_option maxHeartbeats 4000000 in
theorem refKeys_any (sec : ByteArray) (hs : sec.size ≤ 300) (h : Nat) (hh : h ≤ 8) (w : World) :
    Calls Tryd.prog 29 #[.string sec, .int .i64 h] w fun e w' => ∃ vo vc, e = .returned (.slice vo (2 ^ h) vc) ∧ IsStrs w' vo (Sgn.level sec h 0) ∧ Below w.heap.size w w' := by
  obtain ⟨i1, hi1, hy0, hy1, hy2⟩ := info_parts info_str
  obtain ⟨N, HN⟩ : ∃ N, Hid (N = 2 ^ h) := ⟨_, Lib.hid rfl⟩
  have hNb : N ≤ 256 := by rw [HN.out]; exact Nat.pow_le_pow_right (by decide) hh
  have HPw : Hid (∀ X, Calls Tryd.prog 33 #[.int .i64 h] X fun e w' => e = .returned (.int .i64 (N : Int)) ∧ X = w') := Lib.hid fun X => by rw [HN.out]; exact refPower_any h hh X
  rw [← HN.out]
  go_enter Tryd.func29, Tryd.ntmps29
  go_wp2
  go_loopw [5, 6] (fun v a wr => ∃ i : Nat, i ≤ N ∧ a = .int .i64 i ∧ ∃ eo ec, v = .slice eo i ec ∧ Hid (Below w.heap.size w wr ∧ wr.ownsRow w.heap.size 9 1 (.slice eo i ec) i (strC (keysUp sec i)))) (fun _ a _ => N - (intOf a).toNat)
  case atStart => exact ⟨0, by omega, rfl, none, 0, rfl, Lib.hid ⟨Below.refl _ _, World.ownsRow_nil _ _ _ _⟩⟩
  case round =>
    obtain ⟨i, hi, rfl, eo, ec, rfl, HE⟩ := hrel
    by_cases hlt : i < N
    · have hlt' : (i : Int) < N := by omega
      have HK := Lib.hid (refKey_any sec hs i (by omega) wr)
      obtain ⟨kv, Hkv⟩ : ∃ x, Hid (x = Sgn.keyV sec i) := ⟨_, Lib.hid rfl⟩
      rw [← Hkv.out] at HK
      go_wp2_with fail
      refine (HPw.out _).mono ?_
      rintro e _ ⟨rfl, rfl⟩
      go_wp2_with fail
      refine HK.out.mono ?_
      rintro e w2 ⟨rfl, hb⟩
      have HR3 : Hid (w2.ownsRow w.heap.size 9 1 (.slice eo i ec) i (strC (keysUp sec i))) := Lib.hid (owns_grown HE.out.2 hb)
      have HBo3 : Hid (Below w.heap.size w w2) := Lib.hid (below_step HE.out.1 hb)
      clear hb
      have HNw := Lib.hid (newCell w2 kv)
      go_wp2_with (at_builtin; go_loud (refine wpList_append_own _ rfl (.tmp 13) (.tmp 17) 22 rfl w.heap.size 9 i1 (.string ⟨#[]⟩) 1 16 Tryd.underlying22 hi1 hy0 hy1 hy2 rfl (by decide) _ _ _ rfl (HR3.out.alloc _) ⟨w2.heap.size, 0, none⟩ 1 1 [.string kv] rfl rfl HNw.out (by simp [Value.oneCell']) (by unfold maxLen; omega) (by omega) (by have := HBo3.out.size; rw [size_alloc]; omega) ?_); intro v' w10 hown hgrow _; obtain ⟨g', cap', rfl⟩ := owns_succ' hown; have HW10 := Lib.hid hown; have HG10 := Lib.hid hgrow; clear hown hgrow)
      go_roundw
      case rel =>
        refine ⟨i + 1, by omega, by go_num, some ⟨g', 0, none⟩, cap', rfl, Lib.hid ⟨?_, ?_⟩⟩
        · exact (HBo3.out.alloc HBo3.out.size _).grown HG10.out (by have := HBo3.out.size; rw [size_alloc]; omega) (fun j e => (HR3.out.lt j e).1)
        · rw [keysUp_succ, strC_snoc, ← Hkv.out]
          exact HW10.out
      case measure => simp [intOf]; omega
    · obtain rfl : i = N := by omega
      go_wp2_with fail
      refine (HPw.out _).mono ?_
      rintro e _ ⟨rfl, rfl⟩
      go_wp2_with fail
      go_ret
      refine ⟨eo, ec, rfl, ?_, HE.out.1⟩
      have e0 : Sgn.level sec h 0 = keysUp sec i := by rw [HN.out]; rfl
      rw [e0]
      exact strs_of_row HE.out.2 (by simp [keysUp])

end Go.Proofs.YtfnbdjjobndgfaaDoor
