/- The walks of the reference of package sign: chains, starts, keys, powers, levels. -/
import Derived.Test.YtfnbdjjobndgfaaDoorSgnTree
import Derived.Test.YtfnbdjjobndgfaaDoorSgMatches
import Derived.Test.YtfnbdjjobndgfaaDoorDecRef
import Derived.Test.YtfnbdjjobndgfaaDoorSgnMath
import Derived.Test.YtfnbdjjobndgfaaDoorHeldIn
import Derived.BigQuiet
namespace Go.Proofs.YtfnbdjjobndgfaaDoor
open Go.RowKit

theorem refChain_any (s : ByteArray) (hs : s.size ≤ 140737488351232) (n : Nat) (hn : n ≤ 1000) (w : World) :
    Calls Tryd.prog 35 #[.string s, .int .i64 n] w fun e w' => e = .returned (.string (Sgn.chainV n s)) ∧ w = w' := by
  have HS : Hid (∀ k, (Sgn.chainV k s).size ≤ 140737488351232) := Lib.hid fun k => by
    cases k with
    | zero => exact hs
    | succ k => show (Sgn.dg _).size ≤ _; rw [Sgn.dg_size]; decide
  clear hs
  go_enter Tryd.func35, Tryd.ntmps35
  go_wp2
  go_loop [0, 5] (fun t i => ∃ k : Nat, k ≤ n ∧ i = .int .i64 k ∧ ∃ x, t = .string x ∧ Hid (x = Sgn.chainV k s)) (fun _ i => n - (intOf i).toNat)
  case atStart => exact ⟨0, by omega, rfl, s, rfl, Lib.hid rfl⟩
  case round =>
    obtain ⟨k, hk, rfl, x, rfl, HX⟩ := hrel
    by_cases hlt : k < n
    · have hlt' : (k : Int) < n := by omega
      have HC := Lib.hid (refSum_any x (by rw [HX.out]; exact HS.out k) w)
      obtain ⟨y, Hy⟩ : ∃ y, Hid (y = digestOf x.data.toList) := ⟨_, Lib.hid rfl⟩
      rw [← Hy.out] at HC
      go_wp2_with fail
      refine HC.out.mono ?_
      rintro e _ ⟨rfl, rfl⟩
      go_wp2
      go_round
      case rel => exact ⟨k + 1, by omega, by go_num, y, rfl, Lib.hid (by rw [Hy.out, HX.out] <;> rfl)⟩
      case measure => simp [intOf]; omega
    · obtain rfl : n = k := by omega
      go_wp2
      go_ret
      exact ⟨by rw [HX.out] <;> rfl, rfl⟩

set_option maxHeartbeats 1000000 in
theorem refStart_any (sec : ByteArray) (hs : sec.size ≤ 300) (i k : Nat) (hi : i < 1000) (hk : k < 1000) (w : World) :
    Calls Tryd.prog 36 #[.string sec, .int .i64 i, .int .i64 k] w fun e w' => e = .returned (.string (Sgn.startV sec i k)) ∧ Below w.heap.size w w' := by
  go_enter Tryd.func36, Tryd.ntmps36
  go_wp2_with fail
  refine (refDecimal_any i (by omega) w).mono ?_
  rintro e _ ⟨rfl, rfl⟩
  go_wp2_with fail
  refine (refDecimal_any k (by omega) w).mono ?_
  rintro e _ ⟨rfl, rfl⟩
  go_wp2_with fail
  have hw : Below w.heap.size w (w.alloc (.cells #[.string sec, .string (Sgn.decT i), .string (Sgn.decT k)] 9)) := (Below.refl _ _).alloc (Nat.le_refl _) _
  have hL := refList_any (some ⟨w.heap.size, 0, none⟩) [sec, Sgn.decT i, Sgn.decT k] 3 (w.alloc (.cells #[.string sec, .string (Sgn.decT i), .string (Sgn.decT k)] 9)) (strs3 (by rw [cell_alloc, if_pos rfl] <;> rfl) (by rw [cell_alloc, if_pos rfl] <;> rfl) (by rw [cell_alloc, if_pos rfl] <;> rfl)) (few3 hs (by have := decT_size i hi; omega) (by have := decT_size k hk; omega))
  refine hL.mono ?_
  rintro e w3 ⟨rfl, hb⟩
  have HB3 := Lib.hid (hw.trans (hb.mono hw.size))
  clear hb hL hw
  go_wp2
  go_ret
  exact ⟨rfl, HB3.out⟩

theorem refPower_any (n : Nat) (hn : n ≤ 8) (w : World) :
    Calls Tryd.prog 33 #[.int .i64 n] w fun e w' => e = .returned (.int .i64 ((2 ^ n : Nat) : Int)) ∧ w = w' := by
  obtain ⟨r, Hr⟩ : ∃ r, Hid (r = 2 ^ n) := ⟨_, Lib.hid rfl⟩
  rw [← Hr.out]
  go_enter Tryd.func33, Tryd.ntmps33
  go_wp2
  go_loop [3, 4] (fun o i => ∃ k : Nat, k ≤ n ∧ i = .int .i64 k ∧ ∃ x : Nat, o = .int .i64 x ∧ x ≤ 256 ∧ Hid (x = 2 ^ k)) (fun _ i => n - (intOf i).toNat)
  case atStart => exact ⟨0, by omega, rfl, 1, rfl, by decide, Lib.hid rfl⟩
  case round =>
    obtain ⟨k, hk, rfl, x, rfl, hx, HX⟩ := hrel
    by_cases hlt : k < n
    · have hlt' : (k : Int) < n := by omega
      go_wp2
      go_round
      case rel =>
        have e : 2 * x = 2 ^ (k + 1) := by rw [HX.out, Nat.pow_succ]; omega
        have h8 : 2 ^ (k + 1) ≤ 2 ^ 8 := Nat.pow_le_pow_right (by decide) (by omega)
        exact ⟨k + 1, by omega, by go_num, 2 * x, by go_num, by rw [e]; exact h8, Lib.hid e⟩
      case measure => simp [intOf]; omega
    · obtain rfl : n = k := by omega
      go_wp2
      go_ret
      exact ⟨by rw [Hr.out, HX.out] <;> rfl, rfl⟩

theorem newCell (X : World) (s : ByteArray) : ∀ (i : Nat) (u : Value), [Value.string s][i]? = some u → (X.alloc (.cells #[.string s] 9)).cell? ((⟨X.heap.size, 0, none⟩ : Addr).add i) = some u := by
  intro i u hu
  have e : (⟨X.heap.size, 0, none⟩ : Addr).add i = ⟨X.heap.size, i, none⟩ := by unfold Addr.add; split <;> simp_all
  rw [e, cell_alloc, if_pos rfl]
  simpa using hu

set_option maxHeartbeats 4000000 in
theorem refKey_any (sec : ByteArray) (hs : sec.size ≤ 300) (i : Nat) (hi : i < 1000) (w : World) :
    Calls Tryd.prog 50 #[.string sec, .int .i64 i] w fun e w' => e = .returned (.string (Sgn.keyV sec i)) ∧ Below w.heap.size w w' := by
  obtain ⟨i1, hi1, hy0, hy1, hy2⟩ := info_parts info_str
  obtain ⟨kv, Hkv⟩ : ∃ x, Hid (x = Sgn.keyV sec i) := ⟨_, Lib.hid rfl⟩
  rw [← Hkv.out]
  go_enter Tryd.func50, Tryd.ntmps50
  go_wp2
  go_loopw [5, 6] (fun v a wr => ∃ k : Nat, k ≤ 18 ∧ a = .int .i64 k ∧ ∃ eo ec, v = .slice eo k ec ∧ Hid (Below w.heap.size w wr ∧ wr.ownsRow w.heap.size 9 1 (.slice eo k ec) k (strC (endsUp sec i k)))) (fun _ a _ => 18 - (intOf a).toNat)
  case atStart => exact ⟨0, by omega, rfl, none, 0, rfl, Lib.hid ⟨Below.refl _ _, World.ownsRow_nil _ _ _ _⟩⟩
  case round =>
    obtain ⟨k, hk, rfl, eo, ec, rfl, HE⟩ := hrel
    by_cases hltk : k < 18
    · have hltk' : (k : Int) < 18 := by omega
      go_wp2_with fail
      refine (refStart_any sec hs i k hi (by omega) wr).mono ?_
      rintro e w2 ⟨rfl, hb⟩
      have HB2 := Lib.hid hb
      clear hb
      obtain ⟨sv, Hsv⟩ : ∃ x, Hid (x = Sgn.startV sec i k) := ⟨_, Lib.hid rfl⟩
      rw [← Hsv.out]
      have HC := Lib.hid (refChain_any sv (by rw [Hsv.out, startV_size]; decide) 15 (by decide) w2)
      obtain ⟨cv, Hcv⟩ : ∃ x, Hid (x = Sgn.chainV 15 sv) := ⟨_, Lib.hid rfl⟩
      rw [← Hcv.out] at HC
      go_wp2_with fail
      refine HC.out.mono ?_
      rintro e _ ⟨rfl, rfl⟩
      have HR3 : Hid (w2.ownsRow w.heap.size 9 1 (.slice eo k ec) k (strC (endsUp sec i k))) := Lib.hid (owns_grown HE.out.2 HB2.out)
      have HBo3 : Hid (Below w.heap.size w w2) := Lib.hid (below_step HE.out.1 HB2.out)
      have HNw := Lib.hid (newCell w2 cv)
      go_wp2_with (at_builtin; go_loud (refine wpList_append_own _ rfl (.tmp 11) (.tmp 17) 22 rfl w.heap.size 9 i1 (.string ⟨#[]⟩) 1 16 Tryd.underlying22 hi1 hy0 hy1 hy2 rfl (by decide) _ _ _ rfl (HR3.out.alloc _) ⟨w2.heap.size, 0, none⟩ 1 1 [.string cv] rfl rfl HNw.out (by simp [Value.oneCell']) (by unfold maxLen; omega) (by omega) (by have := HBo3.out.size; rw [size_alloc]; omega) ?_); intro v' w10 hown hgrow _; obtain ⟨g', cap', rfl⟩ := owns_succ' hown; have HW10 := Lib.hid hown; have HG10 := Lib.hid hgrow; clear hown hgrow)
      go_roundw
      case rel =>
        refine ⟨k + 1, by omega, by go_num, some ⟨g', 0, none⟩, cap', rfl, Lib.hid ⟨?_, ?_⟩⟩
        · exact (HBo3.out.alloc HBo3.out.size _).grown HG10.out (by have := HBo3.out.size; rw [size_alloc]; omega) (fun j e => (HR3.out.lt j e).1)
        · rw [endsUp_succ, strC_snoc, ← Hsv.out, ← Hcv.out]
          exact HW10.out
      case measure => simp [intOf]; omega
    · obtain rfl : k = 18 := by omega
      have HSt : Hid (IsStrs wr eo (endsUp sec i 18)) := Lib.hid (strs_of_row HE.out.2 (by simp [endsUp]))
      have hL := refList_any eo (endsUp sec i 18) ec wr HSt.out (fewE (fun s hs => by
        obtain ⟨q, _, rfl⟩ := List.mem_map.1 hs
        rw [chain15_size _ _ (startV_size _ _ _)]; decide) (by simp [endsUp]))
      have hl18 : (endsUp sec i 18).length = 18 := by simp [endsUp]
      rw [hl18] at hL
      have ek : digestOf (joinText (bytesOf (endsUp sec i 18))) = kv := by rw [Hkv.out]; rfl
      rw [ek] at hL
      have HKey := Lib.hid hL
      clear hL hl18 ek
      go_wp2_with fail
      refine HKey.out.mono ?_
      rintro e w2 ⟨rfl, hb⟩
      have HB2 := Lib.hid (below_step HE.out.1 hb)
      clear hb
      go_wp2
      go_ret
      exact ⟨rfl, HB2.out⟩

set_option maxHeartbeats 4000000 in
theorem refKeys_any (sec : ByteArray) (hs : sec.size ≤ 300) (h : Nat) (hh : h ≤ 8) (w : World) :
    Calls Tryd.prog 29 #[.string sec, .int .i64 h] w fun e w' => ∃ vo vc, e = .returned (.slice vo (2 ^ h) vc) ∧ IsStrs w' vo (Sgn.level sec h 0) ∧ Below w.heap.size w w' := by
  obtain ⟨i1, hi1, hy0, hy1, hy2⟩ := info_parts info_str
  obtain ⟨N, HN⟩ : ∃ N, Hid (N = 2 ^ h) := ⟨_, Lib.hid rfl⟩
  have hNb : N ≤ 256 := by rw [HN.out]; exact Nat.pow_le_pow_right (by decide) hh
  have HPw : Hid (∀ X, Calls Tryd.prog 33 #[.int .i64 h] X fun e w' => e = .returned (.int .i64 (N : Int)) ∧ X = w') := Lib.hid fun X => by rw [HN.out]; exact refPower_any h hh X
  rw [← HN.out]
  go_enter Tryd.func29, Tryd.ntmps29
  go_wp2
  go_loopw [5, 6] (fun v a wr => ∃ i : Nat, i ≤ N ∧ a = .int .i64 i ∧ ∃ eo ec, v = .slice eo i ec ∧ Hid (Below w.heap.size w wr ∧ wr.ownsRow w.heap.size 9 1 (.slice eo i ec) i (strC (keysUp sec i)))) (fun _ a _ => N - (intOf a).toNat)
  case atStart => exact ⟨0, by omega, rfl, none, 0, rfl, Lib.hid ⟨Below.refl _ _, World.ownsRow_nil _ _ _ _⟩⟩
  case round =>
    obtain ⟨i, hi, rfl, eo, ec, rfl, HE⟩ := hrel
    by_cases hlt : i < N
    · have hlt' : (i : Int) < N := by omega
      have HK := Lib.hid (refKey_any sec hs i (by omega) wr)
      obtain ⟨kv, Hkv⟩ : ∃ x, Hid (x = Sgn.keyV sec i) := ⟨_, Lib.hid rfl⟩
      rw [← Hkv.out] at HK
      go_wp2_with fail
      refine (HPw.out _).mono ?_
      rintro e _ ⟨rfl, rfl⟩
      go_wp2_with fail
      refine HK.out.mono ?_
      rintro e w2 ⟨rfl, hb⟩
      have HR3 : Hid (w2.ownsRow w.heap.size 9 1 (.slice eo i ec) i (strC (keysUp sec i))) := Lib.hid (owns_grown HE.out.2 hb)
      have HBo3 : Hid (Below w.heap.size w w2) := Lib.hid (below_step HE.out.1 hb)
      clear hb
      have HNw := Lib.hid (newCell w2 kv)
      go_wp2_with (at_builtin; go_loud (refine wpList_append_own _ rfl (.tmp 13) (.tmp 17) 22 rfl w.heap.size 9 i1 (.string ⟨#[]⟩) 1 16 Tryd.underlying22 hi1 hy0 hy1 hy2 rfl (by decide) _ _ _ rfl (HR3.out.alloc _) ⟨w2.heap.size, 0, none⟩ 1 1 [.string kv] rfl rfl HNw.out (by simp [Value.oneCell']) (by unfold maxLen; omega) (by omega) (by have := HBo3.out.size; rw [size_alloc]; omega) ?_); intro v' w10 hown hgrow _; obtain ⟨g', cap', rfl⟩ := owns_succ' hown; have HW10 := Lib.hid hown; have HG10 := Lib.hid hgrow; clear hown hgrow)
      go_roundw
      case rel =>
        refine ⟨i + 1, by omega, by go_num, some ⟨g', 0, none⟩, cap', rfl, Lib.hid ⟨?_, ?_⟩⟩
        · exact (HBo3.out.alloc HBo3.out.size _).grown HG10.out (by have := HBo3.out.size; rw [size_alloc]; omega) (fun j e => (HR3.out.lt j e).1)
        · rw [keysUp_succ, strC_snoc, ← Hkv.out]
          exact HW10.out
      case measure => simp [intOf]; omega
    · obtain rfl : i = N := by omega
      go_wp2_with fail
      refine (HPw.out _).mono ?_
      rintro e _ ⟨rfl, rfl⟩
      go_wp2_with fail
      go_ret
      refine ⟨eo, ec, rfl, ?_, HE.out.1⟩
      have e0 : Sgn.level sec h 0 = keysUp sec i := by rw [HN.out]; rfl
      rw [e0]
      exact strs_of_row HE.out.2 (by simp [keysUp])

end Go.Proofs.YtfnbdjjobndgfaaDoor

/- The walks of the reference of package sign: levels, roots, paths, public keys. -/
namespace Go.Proofs.YtfnbdjjobndgfaaDoor
open Go.RowKit

theorem level_size (sec : ByteArray) (h n : Nat) : ∀ s ∈ Sgn.level sec h n, s.size = 16 := fun s hs => (Sgn.isB_parts (Sgn.level_is sec h n s hs)).1

set_option maxHeartbeats 4000000 in
theorem refUp_any (sec : ByteArray) (h n : Nat) (hn : n < h) (hh : h ≤ 8) (ao : Option Addr) (ac : Nat) (w : World) (hs : IsStrs w ao (Sgn.level sec h n)) :
    Calls Tryd.prog 49 #[.slice ao (2 ^ (h - n)) ac] w fun e w' => ∃ vo vc, e = .returned (.slice vo (2 ^ (h - (n + 1))) vc) ∧ w'.ownsRow w.heap.size 9 1 (.slice vo (2 ^ (h - (n + 1))) vc) (2 ^ (h - (n + 1))) (strC (Sgn.level sec h (n + 1))) ∧ Below w.heap.size w w' := by
  obtain ⟨i1, hi1, hy0, hy1, hy2⟩ := info_parts info_str
  obtain ⟨M, HM⟩ : ∃ x, Hid (x = 2 ^ (h - n)) := ⟨_, Lib.hid rfl⟩
  obtain ⟨U, HU⟩ : ∃ x, Hid (x = 2 ^ (h - (n + 1))) := ⟨_, Lib.hid rfl⟩
  have hMb : M ≤ 256 ∧ M % 2 = 0 := by
    rw [HM.out, show h - n = (h - n - 1) + 1 by omega, Nat.pow_succ]
    refine ⟨?_, by omega⟩
    have : 2 ^ (h - n - 1) ≤ 2 ^ 7 := Nat.pow_le_pow_right (by decide) (by omega)
    omega
  have HMU : Hid (M = 2 * U) := Lib.hid (by rw [HM.out, HU.out, show h - n = (h - (n + 1)) + 1 by omega, Nat.pow_succ]; omega)
  have HML : Hid (M = (Sgn.level sec h n).length) := Lib.hid (by rw [HM.out, Sgn.level_len sec h n (by omega)])
  have HS := Lib.hid hs
  have HSz := Lib.hid (level_size sec h n)
  rw [← HM.out, ← HU.out]
  clear hs
  go_enter Tryd.func49, Tryd.ntmps49
  go_wp2
  go_loopw [3, 4] (fun v a wr => ∃ k q : Nat, k = 2 * q ∧ k ≤ M ∧ a = .int .i64 k ∧ ∃ eo ec, v = .slice eo q ec ∧ Hid (Below w.heap.size w wr ∧ wr.ownsRow w.heap.size 9 1 (.slice eo q ec) q (strC (upTo sec h n q)))) (fun _ a _ => M - (intOf a).toNat)
  case atStart => exact ⟨0, 0, rfl, by omega, rfl, none, 0, rfl, Lib.hid ⟨Below.refl _ _, World.ownsRow_nil _ _ _ _⟩⟩
  case round =>
    obtain ⟨k, q, hkq, hk, rfl, eo, ec, rfl, HE⟩ := hrel
    by_cases hltk : k < M
    · have hltk' : (k : Int) < M := by omega
      have hk1 : k + 1 < M := by omega
      have hk1' : ((k + 1 : Nat) : Int) < M := by omega
      have hk2' : (k : Int) + 1 < M := by omega
      have hk0' : (0 : Int) ≤ (k : Int) + 1 := by omega
      obtain ⟨bl, ol, rfl, hbl, hcl⟩ := strs_at (HS.out.below HE.out.1) (k := k) (by rw [← HML.out]; exact hltk)
      obtain ⟨sa, Hsa⟩ : ∃ x, Hid (x = Sgn.at_ (Sgn.level sec h n) k) := ⟨_, Lib.hid rfl⟩
      obtain ⟨sb, Hsb⟩ : ∃ x, Hid (x = Sgn.at_ (Sgn.level sec h n) (k + 1)) := ⟨_, Lib.hid rfl⟩
      have d1 : ∀ X : Grown wr, X.w.cell? ⟨bl, ol + k, none⟩ = some (.string sa) := fun X => by rw [X.cell hbl, hcl k (by rw [← HML.out]; exact hltk), Hsa.out, Sgn.at_get (by rw [← HML.out]; exact hltk)]
      have d2 : ∀ X : Grown wr, X.w.cell? ⟨bl, ol + (k + 1), none⟩ = some (.string sb) := fun X => by rw [X.cell hbl, hcl (k + 1) (by rw [← HML.out]; exact hk1), Hsb.out, Sgn.at_get (by rw [← HML.out]; exact hk1)]
      have hza : sa.size ≤ 300 := by
        rw [Hsa.out, Sgn.at_get (by rw [← HML.out]; exact hltk), HSz.out _ (List.getElem_mem _)]; decide
      have hzb : sb.size ≤ 300 := by
        rw [Hsb.out, Sgn.at_get (by rw [← HML.out]; exact hk1), HSz.out _ (List.getElem_mem _)]; decide
      obtain ⟨nv, Hnv⟩ : ∃ x, Hid (x = Sgn.nodeV sa sb) := ⟨_, Lib.hid rfl⟩
      have HKq := Lib.hid hkq
      have hqb : q ≤ 256 := by omega
      have HLs : Hid (∀ X : World, Calls Tryd.prog 42 #[.slice (some ⟨X.heap.size, 0, none⟩) 3 3] (X.alloc (.cells #[.string Sgn.nodeT, .string sa, .string sb] 9)) fun e w' => e = .returned (.string nv) ∧ Below X.heap.size X w') := Lib.hid fun X => by
        have hw : Below X.heap.size X (X.alloc (.cells #[.string Sgn.nodeT, .string sa, .string sb] 9)) := (Below.refl _ _).alloc (Nat.le_refl _) _
        rw [Hnv.out]
        exact (refList_any (some ⟨X.heap.size, 0, none⟩) [Sgn.nodeT, sa, sb] 3 (X.alloc (.cells #[.string Sgn.nodeT, .string sa, .string sb] 9)) (strs3 (by rw [cell_alloc, if_pos rfl] <;> rfl) (by rw [cell_alloc, if_pos rfl] <;> rfl) (by rw [cell_alloc, if_pos rfl] <;> rfl)) (few3 (by decide) hza hzb)).mono fun e w' ⟨he, hb⟩ => ⟨he, hw.trans (hb.mono hw.size)⟩
      have HBo := Lib.hid HE.out.1
      clear hcl hkq
      go_wp2_with fail
      refine (wpIn_wide (n := 1)).1 ?_
      refine wpIn_region_calm [0, 1, 2, 3, 4, 5, 6, 7, 8, 9] [10, 11, 12, 13, 14] [13, 14] (fun w' => ∃ X : Grown wr, w' = X.w) (by kernel_rfl) (by kernel_rfl) rfl (by kernel_rfl) (by kernel_rfl) ⟨⟨wr.drew, (Below.refl _ _).drew⟩, rfl⟩ ?_
      simp only [List.filterMap_cons, List.filterMap_nil, List.getElem?_toArray, List.getElem?_cons_zero, List.getElem?_cons_succ]
      refine (show wpQuiet _ _ _ _ (_ :: _ :: _ :: _ :: _ :: _ :: _ :: _ :: _ :: _ :: []) _ from ?_)
      repeat (go_big_quiet_step (fail))
      refine wpQuiet_nil ?_
      refine wpTail_cons rfl rfl fun K hK => ?_
      go_simp
      refine hK _ _ (fun _ => ⟨⟨wr.drew.alloc (.cells #[.string Sgn.nodeT, .string sa, .string sb] 9), (Below.refl _ _).drew.alloc (Nat.le_refl _) _⟩, rfl⟩) ?_
      clear hK K
      refine wpTail_cons rfl rfl fun K hK => ?_
      go_simp
      refine ⟨trivial, ?_⟩
      refine (callsIn_wide.2 (HLs.out wr.drew)).mono ?_
      rintro e X1 ⟨rfl, hb⟩
      have HX1 : Hid (Below wr.heap.size wr X1) := Lib.hid ((Below.refl _ _).drew.trans hb)
      refine hK _ _ (fun _ => ⟨⟨X1, HX1.out⟩, rfl⟩) ?_
      clear hK K hb
      refine wpTail_cons rfl rfl fun K hK => ?_
      go_simp
      refine hK _ _ (fun _ => ⟨⟨X1.alloc (.cells #[.string nv] 9), HX1.out.alloc HX1.out.size _⟩, rfl⟩) ?_
      clear hK K
      have HR1 : Hid (X1.ownsRow w.heap.size 9 1 (.slice eo q ec) q (strC (upTo sec h n q))) := Lib.hid (owns_grown HE.out.2 HX1.out)
      have HBX : Hid (Below w.heap.size w X1) := Lib.hid (below_step HBo.out HX1.out)
      have HNw := Lib.hid (newCell X1 nv)
      refine wpTail_cons rfl rfl fun K hK => ?_
      refine wpIn_append_lies _ (.tmp 12) (.tmp 24) 22 rfl w.heap.size 9 i1 (.string ⟨#[]⟩) 1 16 Tryd.underlying22 hi1 hy0 hy1 hy2 rfl (by decide) (.slice eo q ec) q (strC (upTo sec h n q)) (by simp [Act.eval]) (HR1.out.alloc _) ⟨X1.heap.size, 0, none⟩ 1 1 [.string nv] (by simp [Act.eval]) rfl HNw.out (by simp [Value.oneCell']) (by decide) (by unfold maxLen; omega) (by omega) (by rw [size_alloc]; have := HBX.out.size; omega) ?_
      intro g' cap' w10 hown hgrow _ _
      refine hK _ _ (fun h => absurd h (by decide)) ?_
      clear hK K
      have HO := Lib.hid hown
      have HG := Lib.hid hgrow
      clear hown hgrow
      refine wpTail_cons rfl rfl fun K hK => ?_
      go_simp
      refine hK _ _ (fun h => absurd h (by decide)) ?_
      clear hK K
      refine wpTail_calm ?_
      go_wp2_with fail
      go_roundw
      case rel =>
        have hkq := HKq.out
        refine ⟨k + 2, q + 1, by omega, by omega, by go_num, some ⟨g', 0, none⟩, cap', rfl, Lib.hid ⟨?_, ?_⟩⟩
        · exact (HBX.out.alloc HBX.out.size _).grown HG.out (by have := HBX.out.size; rw [size_alloc]; omega) (fun j e => (HR1.out.lt j e).1)
        · have e : strC (upTo sec h n (q + 1)) = strC (upTo sec h n q) ++ [.string nv] := by rw [upTo_succ, strC_snoc, Hnv.out, Hsa.out, Hsb.out, hkq]
          rw [e]
          exact HO.out
      case measure => simp [intOf]; omega
    · have hkM : k = M := by omega
      have hqU : q = U := by have := HMU.out; omega
      have hge : ¬ ((k : Int) + 1 < M) := by omega
      have hge2 : decide ((k : Int) + 1 < M) = false := decide_eq_false hge
      obtain rfl : U = q := hqU.symm
      have hup : upTo sec h n U = Sgn.level sec h (n + 1) := by
        have e : (Sgn.level sec h n).length / 2 = U := by rw [← HML.out, HMU.out]; omega
        show _ = Sgn.up _
        unfold Sgn.up upTo
        rw [e]
      have HF : Hid (wr.ownsRow w.heap.size 9 1 (.slice eo U ec) U (strC (Sgn.level sec h (n + 1))) ∧ Below w.heap.size w wr) := Lib.hid (by
        rw [← hup]
        exact ⟨HE.out.2, HE.out.1⟩)
      have hk256 : k ≤ 256 := by omega
      have hw1 : IntKind.i64.wrap ((k : Int) + 1) = (k : Int) + 1 := by rw [IntKind.wrap_i64]; omega
      clear hup hkq hqU hMb hltk hk hkM
      go_wp2_with fail
      go_ret
      exact ⟨eo, ec, rfl, HF.out.1, HF.out.2⟩

theorem refRoot_any (sec : ByteArray) (h : Nat) (hh : h ≤ 8) (ao : Option Addr) (ac : Nat) (w : World) (hs : IsStrs w ao (Sgn.level sec h 0)) :
    Calls Tryd.prog 28 #[.slice ao (2 ^ h) ac] w fun e w' => e = .returned (.string (Sgn.rootV sec h)) ∧ Below w.heap.size w w' := by
  obtain ⟨N, HN⟩ : ∃ x, Hid (x = 2 ^ h) := ⟨_, Lib.hid rfl⟩
  have HS0 : Hid (∃ n M, n ≤ h ∧ M = 2 ^ (h - n) ∧ N = M ∧ IsStrs w ao (Sgn.level sec h n)) := Lib.hid ⟨0, 2 ^ h, Nat.zero_le _, rfl, HN.out, hs⟩
  rw [← HN.out]
  clear hs
  go_enter Tryd.func28, Tryd.ntmps28
  go_wp2
  go_loopw [0] (fun v wr => ∃ M vo vc, v = .slice vo M vc ∧ M ≤ 256 ∧ Hid (∃ n, n ≤ h ∧ M = 2 ^ (h - n) ∧ IsStrs wr vo (Sgn.level sec h n)) ∧ Hid (Below w.heap.size w wr)) (fun v _ => match v with | .slice _ m _ => m | _ => 0)
  case atStart =>
    obtain ⟨n, M, h1, h2, h3, h4⟩ := HS0.out
    exact ⟨N, ao, ac, rfl, by rw [HN.out]; exact Nat.pow_le_pow_right (by decide) hh, Lib.hid ⟨n, h1, h3.trans h2, h4⟩, Lib.hid (Below.refl _ _)⟩
  case round =>
    obtain ⟨M, vo, vc, rfl, hM, HL, HB⟩ := hrel
    by_cases hlt : 1 < M
    · have hlt' : (1 : Int) < M := by omega
      have HU : Hid (∃ n U, n + 1 ≤ h ∧ M = 2 ^ (h - n) ∧ U = 2 ^ (h - (n + 1)) ∧ M = 2 * U ∧ Calls Tryd.prog 49 #[.slice vo M vc] wr fun e w' => ∃ vo vc, e = .returned (.slice vo U vc) ∧ w'.ownsRow wr.heap.size 9 1 (.slice vo U vc) U (strC (Sgn.level sec h (n + 1))) ∧ Below wr.heap.size wr w') := Lib.hid (by
        obtain ⟨n, h1, h2, h3⟩ := HL.out
        have hn : n < h := by
          rcases Nat.lt_or_ge n h with hh | hh
          · exact hh
          · rw [show h - n = 0 by omega] at h2; omega
        refine ⟨n, _, hn, h2, rfl, by rw [h2, show h - n = (h - (n + 1)) + 1 by omega, Nat.pow_succ]; omega, ?_⟩
        rw [h2]
        exact refUp_any sec h n hn hh vo vc wr h3)
      obtain ⟨n, U, hn1, hM1, hU1, hMU, hC⟩ := HU.out
      have HM1 := Lib.hid hM1
      have HU1 := Lib.hid hU1
      have HMU := Lib.hid hMU
      have HC := Lib.hid hC
      clear hM1 hU1 hMU hC HU
      go_wp2_with fail
      refine HC.out.mono ?_
      rintro e w2 ⟨vo2, vc2, rfl, hi, hb⟩
      have HI2 : Hid (IsStrs w2 vo2 (Sgn.level sec h (n + 1))) := Lib.hid (strs_of_row hi (by rw [Sgn.level_len sec h (n + 1) hn1, HU1.out]))
      have HB2 := Lib.hid (below_step HB.out hb)
      clear hi hb
      go_wp2
      go_roundw
      case rel => exact ⟨U, vo2, vc2, rfl, by have := HMU.out; omega, Lib.hid ⟨n + 1, hn1, HU1.out, HI2.out⟩, HB2⟩
      case measure => have := HMU.out; simp; omega
    · have H1 : Hid (M = 1 ∧ IsStrs wr vo (Sgn.level sec h h)) := Lib.hid (by
        obtain ⟨n, h1, h2, h3⟩ := HL.out
        have hp : 0 < 2 ^ (h - n) := Nat.pow_pos (by decide)
        have hM1 : M = 1 := by omega
        have hn : n = h := by
          rcases Nat.lt_or_ge n h with hh | hh
          · rw [hM1, show h - n = (h - n - 1) + 1 by omega, Nat.pow_succ] at h2; omega
          · omega
        subst hn
        exact ⟨hM1, h3⟩)
      obtain ⟨hM1, hst⟩ := H1.out
      subst hM1
      have hll : (Sgn.level sec h h).length = 1 := by rw [Sgn.level_len sec h h (Nat.le_refl _), Nat.sub_self]
      obtain ⟨bs, os, rfl, hbs, hcs⟩ := strs_at hst (k := 0) (by rw [hll]; decide)
      have hc0 : wr.cell? ⟨bs, os, none⟩ = some (.string (Sgn.rootV sec h)) := by
        have := hcs 0 (by rw [hll]; decide)
        rw [Nat.add_zero] at this
        rw [this]
        unfold Sgn.rootV
        rw [Sgn.at_get (by rw [hll]; decide)]
      clear hcs hst hll hbs H1 HL hlt
      go_wp2_with fail
      go_ret
      exact ⟨rfl, HB.out⟩

set_option maxHeartbeats 4000000 in
theorem refPath_any (sec : ByteArray) (h idx : Nat) (hh : h ≤ 8) (hi : idx < 2 ^ h) (ao : Option Addr) (ac : Nat) (w : World) (hs : IsStrs w ao (Sgn.level sec h 0)) :
    Calls Tryd.prog 37 #[.slice ao (2 ^ h) ac, .int .i64 idx] w fun e w' => ∃ vo vc, e = .returned (.slice vo h vc) ∧ IsStrs w' vo (Sgn.pathV sec h idx) ∧ Below w.heap.size w w' := by
  obtain ⟨i1, hi1, hy0, hy1, hy2⟩ := info_parts info_str
  obtain ⟨N, HN⟩ : ∃ x, Hid (x = 2 ^ h) := ⟨_, Lib.hid rfl⟩
  have hN8 : N ≤ 256 := by rw [HN.out]; exact Nat.pow_le_pow_right (by decide) hh
  have hiN : idx < N := by rw [HN.out]; exact hi
  have HS0 : Hid (IsStrs w ao (Sgn.level sec h 0)) := Lib.hid hs
  rw [← HN.out]
  clear hs hi
  go_enter Tryd.func37, Tryd.ntmps37
  go_wp2
  go_loopw [0, 1, 5] (fun v i o wr => ∃ M vo vc j n eo ec, v = .slice vo M vc ∧ M ≤ 256 ∧ i = .int .i64 ((j : Nat) : Int) ∧ j < M ∧ n ≤ 8 ∧ o = .slice eo n ec ∧ Hid (n ≤ h ∧ M = 2 ^ (h - n) ∧ j = idx / 2 ^ n ∧ IsStrs wr vo (Sgn.level sec h n)) ∧ Hid (Below w.heap.size w wr ∧ wr.ownsRow w.heap.size 9 1 (.slice eo n ec) n (strC (pathUp sec h idx n)) ∧ ∀ b, (Value.slice eo n ec).ownBlock = some b → ∀ bl ol, vo = some ⟨bl, ol, none⟩ → bl ≠ b)) (fun v _ _ _ => match v with | .slice _ m _ => m | _ => 0)
  case atStart => exact ⟨N, ao, ac, idx, 0, none, 0, rfl, hN8, rfl, hiN, by decide, rfl, Lib.hid ⟨Nat.zero_le _, HN.out, by simp, HS0.out⟩, Lib.hid ⟨Below.refl _ _, World.ownsRow_nil _ _ _ _, fun b h => by simp [Value.ownBlock] at h⟩⟩
  case round =>
    obtain ⟨M, vo, vc, j, n, eo, ec, rfl, hM, rfl, hj, hn8, rfl, HL, HE⟩ := hrel
    by_cases hlt : 1 < M
    · have hlt' : (1 : Int) < M := by omega
      have hnh : n < h := by
        obtain ⟨h1, h2, _⟩ := HL.out
        rcases Nat.lt_or_ge n h with hh | hh
        · exact hh
        · rw [show h - n = 0 by omega] at h2; omega
      obtain ⟨U, HU⟩ : ∃ x, Hid (x = 2 ^ (h - (n + 1))) := ⟨_, Lib.hid rfl⟩
      have HMU : Hid (M = 2 * U) := Lib.hid (by rw [HL.out.2.1, HU.out, show h - n = (h - (n + 1)) + 1 by omega, Nat.pow_succ]; omega)
      have HUp : Hid (∀ X, IsStrs X vo (Sgn.level sec h n) → Calls Tryd.prog 49 #[.slice vo M vc] X fun e w' => ∃ vo vc, e = .returned (.slice vo U vc) ∧ w'.ownsRow X.heap.size 9 1 (.slice vo U vc) U (strC (Sgn.level sec h (n + 1))) ∧ Below X.heap.size X w') := Lib.hid fun X hX => by
        rw [HL.out.2.1, HU.out]
        exact refUp_any sec h n hnh hh vo vc X hX
      have HML : Hid (M = (Sgn.level sec h n).length) := Lib.hid (by rw [HL.out.2.1, Sgn.level_len sec h n (by omega)])
      obtain ⟨x, Hx⟩ : ∃ x, Hid (x = j ^^^ 1) := ⟨_, Lib.hid rfl⟩
      have HX2 : Hid (x = if j % 2 = 1 then j - 1 else j + 1) := Lib.hid (by rw [Hx.out]; exact Sgn.xor_one j (by omega))
      have hxM : x < M := by
        have h1 := HX2.out
        have h2 := HMU.out
        split at h1 <;> omega
      have hxl : x < (Sgn.level sec h n).length := by rw [← HML.out]; exact hxM
      obtain ⟨bl, ol, rfl, hbl, hcl⟩ := strs_at HL.out.2.2.2 (k := x) hxl
      obtain ⟨sb, Hsb⟩ : ∃ y, Hid (y = Sgn.at_ (Sgn.level sec h n) x) := ⟨_, Lib.hid rfl⟩
      have d1 : wr.cell? ⟨bl, ol + x, none⟩ = some (.string sb) := by rw [hcl x hxl, Hsb.out, Sgn.at_get hxl]
      have Hcl := Lib.hid hcl
      clear hcl
      have HNw := Lib.hid (newCell wr sb)
      have HPs : Hid (pathUp sec h idx (n + 1) = pathUp sec h idx n ++ [sb]) := Lib.hid (by rw [pathUp_succ, Hsb.out, Hx.out, HL.out.2.2.1])
      have HJ2 : Hid (j / 2 = idx / 2 ^ (n + 1)) := Lib.hid (by rw [HL.out.2.2.1, Nat.pow_succ, Nat.div_div_eq_div_mul])
      by_cases hb : j % 2 = 1
      · have hx1 : x = j - 1 := by rw [HX2.out, if_pos hb]
        obtain ⟨y, rfl⟩ : ∃ y, j = y + 1 := ⟨j - 1, by omega⟩
        obtain rfl : x = y := by omega
        have hm1 : (((x : Int) + 1) % 2 == 0) = false := by simp; omega
        have hm2 : ((x : Int) + 1) % 2 = 1 := by omega
        have hxx : (x : Int) + 1 - 1 = x := by omega
        clear hx1 Hx HX2
        go_wp2_with (at_builtin; go_loud (refine wpList_append_own _ rfl (.tmp 20) (.tmp 26) 22 rfl w.heap.size 9 i1 (.string ⟨#[]⟩) 1 16 Tryd.underlying22 hi1 hy0 hy1 hy2 rfl (by decide) _ _ _ rfl (HE.out.2.1.alloc _) ⟨wr.heap.size, 0, none⟩ 1 1 [.string sb] rfl rfl HNw.out (by simp [Value.oneCell']) (by unfold maxLen; omega) (by omega) (by have := HE.out.1.size; rw [size_alloc]; omega) ?_); intro v' w10 hown hgrow _; obtain ⟨g', cap', rfl⟩ := owns_succ' hown; have HW10 := Lib.hid hown; have HG10 := Lib.hid hgrow; clear hown hgrow)
        have HBn : Hid (Below w.heap.size w w10) := Lib.hid ((HE.out.1.alloc HE.out.1.size _).grown HG10.out (by have := HE.out.1.size; rw [size_alloc]; omega) (fun j e => (HE.out.2.1.lt j e).1))
        have HLv : Hid (IsStrs w10 (some ⟨bl, ol, none⟩) (Sgn.level sec h n)) := Lib.hid (Or.inr ⟨bl, ol, rfl, Nat.lt_of_lt_of_le hbl (by have := HG10.out.size; rw [size_alloc] at this; omega), fun k hk => by
          have e : w10.heap[bl]? = wr.heap[bl]? := (HG10.out.block bl (by rw [size_alloc]; omega) (fun e => HE.out.2.2 bl e.symm bl ol rfl rfl)).trans (Below.heap_alloc _ _ bl hbl)
          rw [World.cell?_of_block e]
          exact Hcl.out k hk⟩)
        have HUs := Lib.hid (HUp.out w10 HLv.out)
        go_wp2_with fail
        refine HUs.out.mono ?_
        rintro e w11 ⟨vo2, vc2, rfl, his, hb⟩
        have HI2 := Lib.hid his
        have HB11 := Lib.hid hb
        clear his hb
        go_wp2
        go_roundw
        case rel =>
          have hU := HMU.out
          refine ⟨U, vo2, vc2, (x + 1) / 2, n + 1, some ⟨g', 0, none⟩, cap', rfl, by omega, by go_num, by omega, by omega, rfl, Lib.hid ⟨by omega, HU.out, ?_, strs_of_row HI2.out (by rw [Sgn.level_len sec h (n + 1) (by omega), HU.out])⟩, Lib.hid ⟨below_step HBn.out HB11.out, ?_, ?_⟩⟩
          · exact HJ2.out
          · rw [HPs.out, strC_snoc]
            exact owns_grown HW10.out HB11.out
          · intro b1 hb1 bl2 ol2 e2
            have h1 := (HW10.out.lt b1 hb1).2
            rw [e2] at HI2
            have h2 := (HI2.out.lt bl2 rfl).1
            omega
        case measure => have := HMU.out; simp; omega
      · have hx1 : x = j + 1 := by rw [HX2.out, if_neg hb]
        have hm2 : (j : Int) % 2 = 0 := by omega
        subst hx1
        have hj1 : (j : Int) + 1 < M := by omega
        have hj2 : (0 : Int) ≤ (j : Int) + 1 := by omega
        clear Hx HX2
        go_wp2_with (at_builtin; go_loud (refine wpList_append_own _ rfl (.tmp 12) (.tmp 18) 22 rfl w.heap.size 9 i1 (.string ⟨#[]⟩) 1 16 Tryd.underlying22 hi1 hy0 hy1 hy2 rfl (by decide) _ _ _ rfl (HE.out.2.1.alloc _) ⟨wr.heap.size, 0, none⟩ 1 1 [.string sb] rfl rfl HNw.out (by simp [Value.oneCell']) (by unfold maxLen; omega) (by omega) (by have := HE.out.1.size; rw [size_alloc]; omega) ?_); intro v' w10 hown hgrow _; obtain ⟨g', cap', rfl⟩ := owns_succ' hown; have HW10 := Lib.hid hown; have HG10 := Lib.hid hgrow; clear hown hgrow)
        have HBn : Hid (Below w.heap.size w w10) := Lib.hid ((HE.out.1.alloc HE.out.1.size _).grown HG10.out (by have := HE.out.1.size; rw [size_alloc]; omega) (fun j e => (HE.out.2.1.lt j e).1))
        have HLv : Hid (IsStrs w10 (some ⟨bl, ol, none⟩) (Sgn.level sec h n)) := Lib.hid (Or.inr ⟨bl, ol, rfl, Nat.lt_of_lt_of_le hbl (by have := HG10.out.size; rw [size_alloc] at this; omega), fun k hk => by
          have e : w10.heap[bl]? = wr.heap[bl]? := (HG10.out.block bl (by rw [size_alloc]; omega) (fun e => HE.out.2.2 bl e.symm bl ol rfl rfl)).trans (Below.heap_alloc _ _ bl hbl)
          rw [World.cell?_of_block e]
          exact Hcl.out k hk⟩)
        have HUs := Lib.hid (HUp.out w10 HLv.out)
        go_wp2_with fail
        refine HUs.out.mono ?_
        rintro e w11 ⟨vo2, vc2, rfl, his, hb⟩
        have HI2 := Lib.hid his
        have HB11 := Lib.hid hb
        clear his hb
        go_wp2
        go_roundw
        case rel =>
          have hU := HMU.out
          refine ⟨U, vo2, vc2, j / 2, n + 1, some ⟨g', 0, none⟩, cap', rfl, by omega, by go_num, by omega, by omega, rfl, Lib.hid ⟨by omega, HU.out, ?_, strs_of_row HI2.out (by rw [Sgn.level_len sec h (n + 1) (by omega), HU.out])⟩, Lib.hid ⟨below_step HBn.out HB11.out, ?_, ?_⟩⟩
          · exact HJ2.out
          · rw [HPs.out, strC_snoc]
            exact owns_grown HW10.out HB11.out
          · intro b1 hb1 bl2 ol2 e2
            have h1 := (HW10.out.lt b1 hb1).2
            rw [e2] at HI2
            have h2 := (HI2.out.lt bl2 rfl).1
            omega
        case measure => have := HMU.out; simp; omega
    · obtain ⟨h1, h2, h3, h4⟩ := HL.out
      have hnh : n = h := by
        rcases Nat.lt_or_ge n h with hh | hh
        · rw [show h - n = (h - n - 1) + 1 by omega, Nat.pow_succ] at h2
          have hp : 0 < 2 ^ (h - n - 1) := Nat.pow_pos (by decide)
          omega
        · omega
      subst hnh
      have HF : Hid (IsStrs wr eo (Sgn.pathV sec n idx) ∧ Below w.heap.size w wr) := Lib.hid ⟨strs_of_row (l := pathUp sec n idx n) HE.out.2.1 (by simp [pathUp]), HE.out.1⟩
      have hM1 : M = 1 := by rw [Nat.sub_self] at h2; exact h2
      subst hM1
      clear h1 h2 h3 h4 HL hlt hM hj
      go_wp2_with fail
      go_ret
      exact ⟨eo, ec, rfl, HF.out.1, HF.out.2⟩

set_option maxHeartbeats 1000000 in
theorem refPublic_bad (sec : ByteArray) (h : Int) (hh : (decide (0 ≤ h) && decide (h ≤ 8)) = false) (w : World) :
    Calls Tryd.prog 14 #[.string sec, .int .i64 h] w fun e w' => e = .returned (.tuple #[.string ⟨#[]⟩, .int .i64 1]) ∧ Below w.heap.size w w' := by
  by_cases h0 : h < 0
  · have d0 : decide (h < 0) = true := decide_eq_true h0
    clear hh
    go_enter Tryd.func14, Tryd.ntmps14
    go_wp2_with fail
    refine bodyPost_ret (v := .tuple #[.string ⟨#[]⟩, .int .i64 1]) (by simp [results, Tryd.results14, go_sem]) rfl ⟨rfl, Below.refl _ _⟩
  · have d0 : decide (h < 0) = false := decide_eq_false h0
    have h8 : (8 : Int) < h := by
      rw [decide_eq_true (show 0 ≤ h by omega), Bool.true_and] at hh
      have := of_decide_eq_false hh
      omega
    clear hh
    go_enter Tryd.func14, Tryd.ntmps14
    go_wp2_with fail
    refine bodyPost_ret (v := .tuple #[.string ⟨#[]⟩, .int .i64 1]) (by simp [results, Tryd.results14, go_sem]) rfl ⟨rfl, Below.refl _ _⟩

set_option maxHeartbeats 1000000 in
theorem refPublic_good (sec : ByteArray) (hs : sec.size ≤ 300) (h : Nat) (hh : h ≤ 8) (w : World) :
    Calls Tryd.prog 14 #[.string sec, .int .i64 h] w fun e w' => e = .returned (.tuple #[.string (Sgn.rootV sec h), .int .i64 0]) ∧ Below w.heap.size w w' := by
  obtain ⟨N, HN⟩ : ∃ x, Hid (x = 2 ^ h) := ⟨_, Lib.hid rfl⟩
  have HK := Lib.hid (refKeys_any sec hs h hh w)
  have HR := Lib.hid fun ao ac X hX => refRoot_any sec h hh ao ac X hX
  rw [← HN.out] at HK HR
  have d0 : decide ((h : Int) < 0) = false := decide_eq_false (by omega)
  have d1 : ¬ (8 : Int) < h := by omega
  go_enter Tryd.func14, Tryd.ntmps14
  go_wp2_with fail
  refine HK.out.mono ?_
  rintro e w1 ⟨vo, vc, rfl, hi, hb⟩
  have HI := Lib.hid hi
  have HB1 := Lib.hid hb
  clear hi hb
  go_wp2_with fail
  refine (HR.out vo vc w1 HI.out).mono ?_
  rintro e w2 ⟨rfl, hb⟩
  have HB2 := Lib.hid (HB1.out.trans (hb.mono HB1.out.size))
  clear hb
  go_wp2_with fail
  refine bodyPost_ret (v := .tuple #[.string (Sgn.rootV sec h), .int .i64 0]) (by simp [results, Tryd.results14, go_sem]) rfl ⟨rfl, HB2.out⟩

end Go.Proofs.YtfnbdjjobndgfaaDoor

/- The walks of the reference of package sign: digits and parents. -/
namespace Go.Proofs.YtfnbdjjobndgfaaDoor
open Go.RowKit

theorem info_int : (Tryd.prog.info? 3).map (fun i => (i.zero, i.size, i.bytes)) = some (some (.int .i64 0), 1, 8) := by kernel_rfl
def natC (l : List Nat) : List Value := l.map fun (d : Nat) => Value.int .i64 (d : Int)
theorem natC_snoc (l : List Nat) (d : Nat) : natC (l ++ [d]) = natC l ++ [.int .i64 d] := by simp [natC]
/-- A message's digits lie in this block. -/
def IsDigs (w : World) (g : Nat) (m : ByteArray) : Prop := g < w.heap.size ∧ ∀ k, k < 18 → w.cell? ⟨g, k, none⟩ = some (.int .i64 (Sgn.dAt m k : Int))
abbrev valsOf (s : ByteArray) : List Nat := s.data.toList.map Sgn.valN
theorem vals_at (s : ByteArray) (k : Nat) (h : k < (valsOf s).length) (h2 : k < s.size) : (valsOf s)[k] = Sgn.valN s[k] := by
  rw [List.getElem_map]
  rfl
def DigPost (w : World) (m : ByteArray) (e : Ending) (w' : World) : Prop := ∃ g cap, e = .returned (.slice (some ⟨g, 0, none⟩) 18 cap) ∧ IsDigs w' g m ∧ Below w.heap.size w w'
theorem hexVal_val (c : UInt8) (h : Dig.isHex c = true) : hexVal c.toNat = (Sgn.valN c : Int) := by
  have := of_decide_eq_true h
  unfold hexVal Sgn.valN
  split <;> split <;> first | omega | (split <;> omega)

set_option maxHeartbeats 4000000 in
theorem refDig_any (m : ByteArray) (hm : m.size ≤ 140737488351232) (w : World) :
    Calls Tryd.prog 34 #[.string m] w (DigPost w m) := by
  obtain ⟨i1, hi1, hy0, hy1, hy2⟩ := info_parts info_int
  obtain ⟨S, HS⟩ : ∃ x, Hid (x = Sgn.dg m) := ⟨_, Lib.hid rfl⟩
  have HSm : Hid (Calls Tryd.prog 25 #[.string m] w fun e w' => e = .returned (.string S) ∧ w = w') := Lib.hid (by rw [HS.out]; exact refSum_any m hm w)
  have HS16 : Hid (S.size = 16) := Lib.hid (by rw [HS.out]; exact Sgn.dg_size m)
  have HX : Hid (∀ k, (hk : k < S.size) → Dig.isHex S[k] = true) := Lib.hid fun k hk => (Sgn.isB_parts (by rw [HS.out]; exact Sgn.dg_is m)).2 _ (List.getElem_mem (l := S.data.toList) (n := k) hk)
  have HV : Hid (∀ k, (hk : k < S.size) → (Sgn.vals m).take (k + 1) = (Sgn.vals m).take k ++ [Sgn.valN S[k]]) := Lib.hid fun k hk => by
    have e0 : Sgn.vals m = valsOf S := by rw [HS.out]; rfl
    have h1 : k < (valsOf S).length := by rw [← e0, Sgn.vals_len]; have := HS16.out; omega
    rw [e0, List.take_succ_eq_append_getElem h1, vals_at S k h1 hk]
  go_enter Tryd.func34, Tryd.ntmps34
  go_wp2_with fail
  refine HSm.out.mono ?_
  rintro e _ ⟨rfl, rfl⟩
  go_wp2_with fail
  go_loopw [4, 5, 6] (fun o r i wr => ∃ k : Nat, k ≤ 16 ∧ i = .int .i64 k ∧ ∃ z : Int, r = .int .i64 z ∧ 0 ≤ z ∧ z ≤ 15 * k ∧ Hid (z = (Sgn.restTo ((Sgn.vals m).take k) : Int)) ∧ ∃ eo ec, o = .slice eo k ec ∧ Hid (Below w.heap.size w wr ∧ wr.ownsRow w.heap.size 3 1 (.slice eo k ec) k (natC ((Sgn.vals m).take k)))) (fun _ _ i _ => 16 - (intOf i).toNat)
  case atStart => exact ⟨0, by omega, rfl, 0, rfl, by omega, by omega, Lib.hid (by simp [Sgn.restTo]), none, 0, rfl, Lib.hid ⟨Below.refl _ _, World.ownsRow_nil _ _ _ _⟩⟩
  case round =>
    obtain ⟨k, hk, rfl, z, rfl, hz0, hz1, HZ, eo, ec, rfl, HE⟩ := hrel
    by_cases hlt : k < 16
    · have hks : k < S.size := by rw [HS16.out]; exact hlt
      obtain ⟨d, Hd⟩ : ∃ d, Hid (d = Sgn.valN S[k]) := ⟨_, Lib.hid rfl⟩
      have hd15 : d ≤ 15 := by rw [Hd.out]; exact Sgn.valN_hex (HX.out k hks)
      have HDg : Hid (∀ X, Calls Tryd.prog 56 #[.int .u8 (S[k].toNat : Int)] X fun e w' => e = .returned (.int .i64 (d : Int)) ∧ X = w') := Lib.hid fun X => by
        have := refDigit_any (S[k].toNat : Int) (by omega) (by have := S[k].toNat_lt; omega) X
        rw [hexVal_val _ (HX.out k hks), ← Hd.out] at this
        exact this
      have HVk : Hid ((Sgn.vals m).take (k + 1) = (Sgn.vals m).take k ++ [d]) := Lib.hid (by rw [HV.out k hks, Hd.out])
      have HNw : Hid (∀ (i : Nat) (u : Value), [Value.int .i64 (d : Int)][i]? = some u → (wr.alloc (.cells #[.int .i64 (d : Int)] 3)).cell? ((⟨wr.heap.size, 0, none⟩ : Addr).add i) = some u) := Lib.hid (by
        intro i u hu
        have e : (⟨wr.heap.size, 0, none⟩ : Addr).add i = ⟨wr.heap.size, i, none⟩ := by unfold Addr.add; split <;> simp_all
        rw [e, cell_alloc, if_pos rfl]
        simpa using hu)
      go_wp2_with fail
      refine (HDg.out _).mono ?_
      rintro e _ ⟨rfl, rfl⟩
      go_wp2_with (at_builtin; go_loud (refine wpList_append_own _ rfl (.tmp 20) (.tmp 22) 58 rfl w.heap.size 3 i1 (.int .i64 0) 1 8 Tryd.underlying58 hi1 hy0 hy1 hy2 rfl (by decide) _ _ _ rfl (HE.out.2.alloc _) ⟨wr.heap.size, 0, none⟩ 1 1 [.int .i64 (d : Int)] rfl rfl HNw.out (by simp [Value.oneCell']) (by unfold maxLen; omega) (by omega) (by have := HE.out.1.size; rw [size_alloc]; omega) ?_); intro v' w10 hown hgrow _; obtain ⟨g', cap', rfl⟩ := owns_succ' hown; have HW10 := Lib.hid hown; have HG10 := Lib.hid hgrow; clear hown hgrow)
      go_roundw
      case rel =>
        refine ⟨k + 1, by omega, by go_num, z + 15 - d, by go_num, by omega, by omega, Lib.hid ?_, some ⟨g', 0, none⟩, cap', rfl, Lib.hid ⟨?_, ?_⟩⟩
        · rw [HVk.out, Sgn.restTo_snoc, HZ.out]; omega
        · exact (HE.out.1.alloc HE.out.1.size _).grown HG10.out (by have := HE.out.1.size; rw [size_alloc]; omega) (fun j e => (HE.out.2.lt j e).1)
        · rw [HVk.out, natC_snoc]
          exact HW10.out
      case measure => simp [intOf]; omega
    · obtain rfl : k = 16 := by omega
      obtain ⟨r, rfl⟩ : ∃ r : Nat, z = r := ⟨z.toNat, by omega⟩
      obtain ⟨a, Ha⟩ : ∃ a, Hid (a = r / 16) := ⟨_, Lib.hid rfl⟩
      obtain ⟨b, Hb⟩ : ∃ a, Hid (a = r % 16) := ⟨_, Lib.hid rfl⟩
      have hqa : (r : Int) / 16 = (a : Int) := by rw [Ha.out]; omega
      have hqb : (r : Int) % 16 = (b : Int) := by rw [Hb.out]; omega
      have htk : (Sgn.vals m).take 16 = Sgn.vals m := List.take_of_length_le (by rw [Sgn.vals_len]; decide)
      have HF : Hid (natC ((Sgn.vals m).take 16) ++ [.int .i64 (a : Int), .int .i64 (b : Int)] = natC (Sgn.digitsV m)) := Lib.hid (by
        have hr : r = Sgn.restTo (Sgn.vals m) := by have := HZ.out; rw [htk] at this; omega
        rw [htk, Ha.out, Hb.out, hr]
        simp [natC, Sgn.digitsV])
      have HNw : Hid (∀ (i : Nat) (u : Value), [Value.int .i64 (a : Int), .int .i64 (b : Int)][i]? = some u → (wr.alloc (.cells #[.int .i64 (a : Int), .int .i64 (b : Int)] 3)).cell? ((⟨wr.heap.size, 0, none⟩ : Addr).add i) = some u) := Lib.hid (by
        intro i u hu
        have e : (⟨wr.heap.size, 0, none⟩ : Addr).add i = ⟨wr.heap.size, i, none⟩ := by unfold Addr.add; split <;> simp_all
        rw [e, cell_alloc, if_pos rfl]
        simpa using hu)
      have hS16 : ¬ (16 : Int) < S.size := by have := HS16.out; omega
      have hS16n : ¬ 16 < S.size := by have := HS16.out; omega
      clear htk hz1
      have hz1 : r ≤ 240 := by have := HZ.out; have h2 := Sgn.restTo_le ((Sgn.vals m).take 16); rw [List.length_take] at h2; omega
      go_wp2_with (at_builtin; go_loud (refine wpList_append_own _ rfl (.tmp 28) (.tmp 33) 58 rfl w.heap.size 3 i1 (.int .i64 0) 1 8 Tryd.underlying58 hi1 hy0 hy1 hy2 rfl (by decide) _ _ _ rfl (HE.out.2.alloc _) ⟨wr.heap.size, 0, none⟩ 2 2 [.int .i64 (a : Int), .int .i64 (b : Int)] rfl rfl HNw.out (by simp [Value.oneCell']) (by unfold maxLen; omega) (by omega) (by have := HE.out.1.size; rw [size_alloc]; omega) ?_); intro v' w10 hown hgrow _; obtain ⟨g', cap', rfl⟩ := owns_succ' hown; have HW10 := Lib.hid hown; have HG10 := Lib.hid hgrow; clear hown hgrow)
      go_ret
      refine ⟨g', cap', rfl, ⟨(HW10.out.lt g' rfl).2, fun k hk => ?_⟩, (HE.out.1.alloc HE.out.1.size _).grown HG10.out (by have := HE.out.1.size; rw [size_alloc]; omega) (fun j e => (HE.out.2.lt j e).1)⟩
      rw [HW10.out.cellAt k hk, HF.out]
      have hk' : k < (Sgn.digitsV m).length := by rw [Sgn.digitsV_len]; exact hk
      simp [natC, Sgn.dAt, hk']

set_option maxHeartbeats 1000000 in
theorem refParent_any (a b : ByteArray) (ha : a.size ≤ 300) (hb : b.size ≤ 300) (c : Bool) (w : World) :
    Calls Tryd.prog 43 #[.string a, .string b, .bool c] w fun e w' => e = .returned (.string (if c then Sgn.nodeV b a else Sgn.nodeV a b)) ∧ Below w.heap.size w w' := by
  cases c with
  | true =>
    go_enter Tryd.func43, Tryd.ntmps43
    go_wp2_with fail
    have hw : Below w.heap.size w (w.alloc (.cells #[.string Sgn.nodeT, .string b, .string a] 9)) := (Below.refl _ _).alloc (Nat.le_refl _) _
    have hL := refList_any (some ⟨w.heap.size, 0, none⟩) [Sgn.nodeT, b, a] 3 (w.alloc (.cells #[.string Sgn.nodeT, .string b, .string a] 9)) (strs3 (by rw [cell_alloc, if_pos rfl] <;> rfl) (by rw [cell_alloc, if_pos rfl] <;> rfl) (by rw [cell_alloc, if_pos rfl] <;> rfl)) (few3 (by decide) hb ha)
    refine hL.mono ?_
    rintro e w3 ⟨rfl, hb3⟩
    have HB3 := Lib.hid (hw.trans (hb3.mono hw.size))
    clear hb3 hL hw
    go_wp2
    go_ret
    exact ⟨rfl, HB3.out⟩
  | false =>
    go_enter Tryd.func43, Tryd.ntmps43
    go_wp2_with fail
    have hw : Below w.heap.size w (w.alloc (.cells #[.string Sgn.nodeT, .string a, .string b] 9)) := (Below.refl _ _).alloc (Nat.le_refl _) _
    have hL := refList_any (some ⟨w.heap.size, 0, none⟩) [Sgn.nodeT, a, b] 3 (w.alloc (.cells #[.string Sgn.nodeT, .string a, .string b] 9)) (strs3 (by rw [cell_alloc, if_pos rfl] <;> rfl) (by rw [cell_alloc, if_pos rfl] <;> rfl) (by rw [cell_alloc, if_pos rfl] <;> rfl)) (few3 (by decide) ha hb)
    refine hL.mono ?_
    rintro e w3 ⟨rfl, hb3⟩
    have HB3 := Lib.hid (hw.trans (hb3.mono hw.size))
    clear hb3 hL hw
    go_wp2
    go_ret
    exact ⟨rfl, HB3.out⟩

end Go.Proofs.YtfnbdjjobndgfaaDoor
