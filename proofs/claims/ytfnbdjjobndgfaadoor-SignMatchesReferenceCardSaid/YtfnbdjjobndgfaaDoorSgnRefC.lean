/- The walks of the reference of package sign: digits and parents. -/
import Derived.Test.YtfnbdjjobndgfaaDoorSgnRefB
namespace Go.Proofs.YtfnbdjjobndgfaaDoor
open Go.RowKit

theorem info_int : (Tryd.prog.info? 3).map (fun i => (i.zero, i.size, i.bytes)) = some (some (.int .i64 0), 1, 8) := by kernel_rfl
def natC (l : List Nat) : List Value := l.map fun (d : Nat) => Value.int .i64 (d : Int)
theorem natC_snoc (l : List Nat) (d : Nat) : natC (l ++ [d]) = natC l ++ [.int .i64 d] := by simp [natC]
/-- A message's digits lie in this block. -/
def IsDigs (w : World) (g : Nat) (m : ByteArray) : Prop := g < w.heap.size ∧ ∀ k, k < 18 → w.cell? ⟨g, k, none⟩ = some (.int .i64 (Sgn.dAt m k : Int))
abbrev valsOf (s : ByteArray) : List Nat := s.data.toList.map Sgn.valN
theorem vals_at (s : ByteArray) (k : Nat) (h : k < (valsOf s).length) (h2 : k < s.size) : (valsOf s)[k] = Sgn.valN s[k] := by
  rw [List.getElem_map]
  rfl
def DigPost (w : World) (m : ByteArray) (e : Ending) (w' : World) : Prop := ∃ g cap, e = .returned (.slice (some ⟨g, 0, none⟩) 18 cap) ∧ IsDigs w' g m ∧ Below w.heap.size w w'
theorem hexVal_val (c : UInt8) (h : Dig.isHex c = true) : hexVal c.toNat = (Sgn.valN c : Int) := by
  have := of_decide_eq_true h
  unfold hexVal Sgn.valN
  split <;> split <;> first | omega | (split <;> omega)

set_option maxHeartbeats 4000000 in
theorem refDig_any (m : ByteArray) (hm : m.size ≤ 140737488351232) (w : World) :
    Calls Tryd.prog 34 #[.string m] w (DigPost w m) := by
  obtain ⟨i1, hi1, hy0, hy1, hy2⟩ := info_parts info_int
  obtain ⟨S, HS⟩ : ∃ x, Hid (x = Sgn.dg m) := ⟨_, Lib.hid rfl⟩
  have HSm : Hid (Calls Tryd.prog 25 #[.string m] w fun e w' => e = .returned (.string S) ∧ w = w') := Lib.hid (by rw [HS.out]; exact refSum_any m hm w)
  have HS16 : Hid (S.size = 16) := Lib.hid (by rw [HS.out]; exact Sgn.dg_size m)
  have HX : Hid (∀ k, (hk : k < S.size) → Dig.isHex S[k] = true) := Lib.hid fun k hk => (Sgn.isB_parts (by rw [HS.out]; exact Sgn.dg_is m)).2 _ (List.getElem_mem (l := S.data.toList) (n := k) hk)
  have HV : Hid (∀ k, (hk : k < S.size) → (Sgn.vals m).take (k + 1) = (Sgn.vals m).take k ++ [Sgn.valN S[k]]) := Lib.hid fun k hk => by
    have e0 : Sgn.vals m = valsOf S := by rw [HS.out]; rfl
    have h1 : k < (valsOf S).length := by rw [← e0, Sgn.vals_len]; have := HS16.out; omega
    rw [e0, List.take_succ_eq_append_getElem h1, vals_at S k h1 hk]
  go_enter Tryd.func34, Tryd.ntmps34
  go_wp2_with fail
  refine HSm.out.mono ?_
  rintro e _ ⟨rfl, rfl⟩
  go_wp2_with fail
  go_loopw [4, 5, 6] (fun o r i wr => ∃ k : Nat, k ≤ 16 ∧ i = .int .i64 k ∧ ∃ z : Int, r = .int .i64 z ∧ 0 ≤ z ∧ z ≤ 15 * k ∧ Hid (z = (Sgn.restTo ((Sgn.vals m).take k) : Int)) ∧ ∃ eo ec, o = .slice eo k ec ∧ Hid (Below w.heap.size w wr ∧ wr.ownsRow w.heap.size 3 1 (.slice eo k ec) k (natC ((Sgn.vals m).take k)))) (fun _ _ i _ => 16 - (intOf i).toNat)
  case atStart => exact ⟨0, by omega, rfl, 0, rfl, by omega, by omega, Lib.hid (by simp [Sgn.restTo]), none, 0, rfl, Lib.hid ⟨Below.refl _ _, World.ownsRow_nil _ _ _ _⟩⟩
  case round =>
    obtain ⟨k, hk, rfl, z, rfl, hz0, hz1, HZ, eo, ec, rfl, HE⟩ := hrel
    by_cases hlt : k < 16
    · have hks : k < S.size := by rw [HS16.out]; exact hlt
      obtain ⟨d, Hd⟩ : ∃ d, Hid (d = Sgn.valN S[k]) := ⟨_, Lib.hid rfl⟩
      have hd15 : d ≤ 15 := by rw [Hd.out]; exact Sgn.valN_hex (HX.out k hks)
      have HDg : Hid (∀ X, Calls Tryd.prog 56 #[.int .u8 (S[k].toNat : Int)] X fun e w' => e = .returned (.int .i64 (d : Int)) ∧ X = w') := Lib.hid fun X => by
        have := refDigit_any (S[k].toNat : Int) (by omega) (by have := S[k].toNat_lt; omega) X
        rw [hexVal_val _ (HX.out k hks), ← Hd.out] at this
        exact this
      have HVk : Hid ((Sgn.vals m).take (k + 1) = (Sgn.vals m).take k ++ [d]) := Lib.hid (by rw [HV.out k hks, Hd.out])
      have HNw : Hid (∀ (i : Nat) (u : Value), [Value.int .i64 (d : Int)][i]? = some u → (wr.alloc (.cells #[.int .i64 (d : Int)] 3)).cell? ((⟨wr.heap.size, 0, none⟩ : Addr).add i) = some u) := Lib.hid (by
        intro i u hu
        have e : (⟨wr.heap.size, 0, none⟩ : Addr).add i = ⟨wr.heap.size, i, none⟩ := by unfold Addr.add; split <;> simp_all
        rw [e, cell_alloc, if_pos rfl]
        simpa using hu)
      go_wp2_with fail
      refine (HDg.out _).mono ?_
      rintro e _ ⟨rfl, rfl⟩
      go_wp2_with (at_builtin; go_loud (refine wpList_append_own _ rfl (.tmp 20) (.tmp 22) 58 rfl w.heap.size 3 i1 (.int .i64 0) 1 8 Tryd.underlying58 hi1 hy0 hy1 hy2 rfl (by decide) _ _ _ rfl (HE.out.2.alloc _) ⟨wr.heap.size, 0, none⟩ 1 1 [.int .i64 (d : Int)] rfl rfl HNw.out (by simp [Value.oneCell']) (by unfold maxLen; omega) (by omega) (by have := HE.out.1.size; rw [size_alloc]; omega) ?_); intro v' w10 hown hgrow _; obtain ⟨g', cap', rfl⟩ := owns_succ' hown; have HW10 := Lib.hid hown; have HG10 := Lib.hid hgrow; clear hown hgrow)
      go_roundw
      case rel =>
        refine ⟨k + 1, by omega, by go_num, z + 15 - d, by go_num, by omega, by omega, Lib.hid ?_, some ⟨g', 0, none⟩, cap', rfl, Lib.hid ⟨?_, ?_⟩⟩
        · rw [HVk.out, Sgn.restTo_snoc, HZ.out]; omega
        · exact (HE.out.1.alloc HE.out.1.size _).grown HG10.out (by have := HE.out.1.size; rw [size_alloc]; omega) (fun j e => (HE.out.2.lt j e).1)
        · rw [HVk.out, natC_snoc]
          exact HW10.out
      case measure => simp [intOf]; omega
    · obtain rfl : k = 16 := by omega
      obtain ⟨r, rfl⟩ : ∃ r : Nat, z = r := ⟨z.toNat, by omega⟩
      obtain ⟨a, Ha⟩ : ∃ a, Hid (a = r / 16) := ⟨_, Lib.hid rfl⟩
      obtain ⟨b, Hb⟩ : ∃ a, Hid (a = r % 16) := ⟨_, Lib.hid rfl⟩
      have hqa : (r : Int) / 16 = (a : Int) := by rw [Ha.out]; omega
      have hqb : (r : Int) % 16 = (b : Int) := by rw [Hb.out]; omega
      have htk : (Sgn.vals m).take 16 = Sgn.vals m := List.take_of_length_le (by rw [Sgn.vals_len]; decide)
      have HF : Hid (natC ((Sgn.vals m).take 16) ++ [.int .i64 (a : Int), .int .i64 (b : Int)] = natC (Sgn.digitsV m)) := Lib.hid (by
        have hr : r = Sgn.restTo (Sgn.vals m) := by have := HZ.out; rw [htk] at this; omega
        rw [htk, Ha.out, Hb.out, hr]
        simp [natC, Sgn.digitsV])
      have HNw : Hid (∀ (i : Nat) (u : Value), [Value.int .i64 (a : Int), .int .i64 (b : Int)][i]? = some u → (wr.alloc (.cells #[.int .i64 (a : Int), .int .i64 (b : Int)] 3)).cell? ((⟨wr.heap.size, 0, none⟩ : Addr).add i) = some u) := Lib.hid (by
        intro i u hu
        have e : (⟨wr.heap.size, 0, none⟩ : Addr).add i = ⟨wr.heap.size, i, none⟩ := by unfold Addr.add; split <;> simp_all
        rw [e, cell_alloc, if_pos rfl]
        simpa using hu)
      have hS16 : ¬ (16 : Int) < S.size := by have := HS16.out; omega
      have hS16n : ¬ 16 < S.size := by have := HS16.out; omega
      clear htk hz1
      have hz1 : r ≤ 240 := by have := HZ.out; have h2 := Sgn.restTo_le ((Sgn.vals m).take 16); rw [List.length_take] at h2; omega
      go_wp2_with (at_builtin; go_loud (refine wpList_append_own _ rfl (.tmp 28) (.tmp 33) 58 rfl w.heap.size 3 i1 (.int .i64 0) 1 8 Tryd.underlying58 hi1 hy0 hy1 hy2 rfl (by decide) _ _ _ rfl (HE.out.2.alloc _) ⟨wr.heap.size, 0, none⟩ 2 2 [.int .i64 (a : Int), .int .i64 (b : Int)] rfl rfl HNw.out (by simp [Value.oneCell']) (by unfold maxLen; omega) (by omega) (by have := HE.out.1.size; rw [size_alloc]; omega) ?_); intro v' w10 hown hgrow _; obtain ⟨g', cap', rfl⟩ := owns_succ' hown; have HW10 := Lib.hid hown; have HG10 := Lib.hid hgrow; clear hown hgrow)
      go_ret
      refine ⟨g', cap', rfl, ⟨(HW10.out.lt g' rfl).2, fun k hk => ?_⟩, (HE.out.1.alloc HE.out.1.size _).grown HG10.out (by have := HE.out.1.size; rw [size_alloc]; omega) (fun j e => (HE.out.2.lt j e).1)⟩
      rw [HW10.out.cellAt k hk, HF.out]
      have hk' : k < (Sgn.digitsV m).length := by rw [Sgn.digitsV_len]; exact hk
      simp [natC, Sgn.dAt, hk']

set_option maxHeartbeats 1000000 in
theorem refParent_any (a b : ByteArray) (ha : a.size ≤ 300) (hb : b.size ≤ 300) (c : Bool) (w : World) :
    Calls Tryd.prog 43 #[.string a, .string b, .bool c] w fun e w' => e = .returned (.string (if c then Sgn.nodeV b a else Sgn.nodeV a b)) ∧ Below w.heap.size w w' := by
  cases c with
  | true =>
    go_enter Tryd.func43, Tryd.ntmps43
    go_wp2_with fail
    have hw : Below w.heap.size w (w.alloc (.cells #[.string Sgn.nodeT, .string b, .string a] 9)) := (Below.refl _ _).alloc (Nat.le_refl _) _
    have hL := refList_any (some ⟨w.heap.size, 0, none⟩) [Sgn.nodeT, b, a] 3 (w.alloc (.cells #[.string Sgn.nodeT, .string b, .string a] 9)) (strs3 (by rw [cell_alloc, if_pos rfl] <;> rfl) (by rw [cell_alloc, if_pos rfl] <;> rfl) (by rw [cell_alloc, if_pos rfl] <;> rfl)) (few3 (by decide) hb ha)
    refine hL.mono ?_
    rintro e w3 ⟨rfl, hb3⟩
    have HB3 := Lib.hid (hw.trans (hb3.mono hw.size))
    clear hb3 hL hw
    go_wp2
    go_ret
    exact ⟨rfl, HB3.out⟩
  | false =>
    go_enter Tryd.func43, Tryd.ntmps43
    go_wp2_with fail
    have hw : Below w.heap.size w (w.alloc (.cells #[.string Sgn.nodeT, .string a, .string b] 9)) := (Below.refl _ _).alloc (Nat.le_refl _) _
    have hL := refList_any (some ⟨w.heap.size, 0, none⟩) [Sgn.nodeT, a, b] 3 (w.alloc (.cells #[.string Sgn.nodeT, .string a, .string b] 9)) (strs3 (by rw [cell_alloc, if_pos rfl] <;> rfl) (by rw [cell_alloc, if_pos rfl] <;> rfl) (by rw [cell_alloc, if_pos rfl] <;> rfl)) (few3 (by decide) ha hb)
    refine hL.mono ?_
    rintro e w3 ⟨rfl, hb3⟩
    have HB3 := Lib.hid (hw.trans (hb3.mono hw.size))
    clear hb3 hL hw
    go_wp2
    go_ret
    exact ⟨rfl, HB3.out⟩

end Go.Proofs.YtfnbdjjobndgfaaDoor
