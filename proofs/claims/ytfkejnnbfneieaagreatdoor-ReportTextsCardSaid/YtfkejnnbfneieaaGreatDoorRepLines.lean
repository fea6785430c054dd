/- report.lines: the walk. -/
import Derived.Test.YtfkejnnbfneieaaGreatDoorRepText
import Derived.Test.YtfkejnnbfneieaaGreatDoorMemCopy
import Derived.Test.YtfkejnnbfneieaaGreatDoorShelf
import Derived.Lib.SlBytesRow
namespace Go.Proofs.YtfkejnnbfneieaaGreatDoor
open Go.RowKit Go.Sort
open Evt

/-- The slice is a line of the block's text. -/
def LineAt (b : Nat) (ds : List UInt8) (v : Value) (x : List UInt8) : Prop := ∃ p c, v = .slice (some ⟨b, p, none⟩) x.length c ∧ x.length ≤ c ∧ p + x.length ≤ ds.length ∧ (ds.drop p).take x.length = x
def LinesAt (b : Nat) (ds : List UInt8) (vs : List Value) (l : List (List UInt8)) : Prop := vs.length = l.length ∧ ∀ (i : Nat) (v : Value) (x : List UInt8), vs[i]? = some v → l[i]? = some x → LineAt b ds v x
theorem LinesAt.nil (b : Nat) (ds : List UInt8) : LinesAt b ds [] [] := ⟨rfl, fun i v x h => by simp at h⟩
theorem LinesAt.more {b : Nat} {ds : List UInt8} {vs : List Value} {l : List (List UInt8)} (h : LinesAt b ds vs l) {v : Value} {x : List UInt8} (hx : LineAt b ds v x) : LinesAt b ds (vs ++ [v]) (l ++ [x]) := by
  refine ⟨by simp [h.1], fun i u y hu hy => ?_⟩
  by_cases hi : i < vs.length
  · rw [List.getElem?_append_left hi] at hu
    rw [List.getElem?_append_left (by rw [← h.1]; exact hi)] at hy
    exact h.2 i u y hu hy
  · have hi2 : i = vs.length := by
      have := (List.getElem?_eq_some_iff.1 hu).1
      simp at this
      omega
    subst hi2
    rw [List.getElem?_append_right (Nat.le_refl _), Nat.sub_self] at hu
    rw [h.1, List.getElem?_append_right (Nat.le_refl _), Nat.sub_self] at hy
    cases hu
    cases hy
    exact hx
theorem LineAt.one {b : Nat} {ds : List UInt8} {v : Value} {x : List UInt8} (h : LineAt b ds v x) : v.oneCell' = true := by
  obtain ⟨p, c, rfl, -⟩ := h
  rfl
/-- The text that is left, and its first line. -/
theorem cut_at {ds : List UInt8} {q e : Nat} (h : Lib.indexByte (ds.drop q) 10 = (e : Int)) : q + e < ds.length ∧ (10 : UInt8) ∉ (ds.drop q).take e ∧ ((ds.drop q).take e).length = e ∧ linesL (ds.drop q) = (ds.drop q).take e :: linesL (ds.drop (q + e + 1)) := by
  obtain ⟨h1, h2⟩ := Lib.indexByte_some h
  have hl : e < (ds.drop q).length := (List.getElem?_eq_some_iff.1 h1).1
  have hl2 : q + e < ds.length := by rw [List.length_drop] at hl; omega
  have hn : (10 : UInt8) ∉ (ds.drop q).take e := by
    intro hm
    obtain ⟨i, hi, hg⟩ := List.getElem_of_mem hm
    rw [List.length_take] at hi
    refine h2 i (by omega) ?_
    rw [List.getElem_take] at hg
    rw [List.getElem?_eq_getElem (by omega), hg]
  refine ⟨hl2, hn, by rw [List.length_take]; omega, ?_⟩
  have e1 : ds.drop q = (ds.drop q).take e ++ 10 :: ds.drop (q + e + 1) := by
    have h3 : (ds.drop q).drop e = 10 :: (ds.drop q).drop (e + 1) := by
      rw [List.drop_eq_getElem_cons hl]
      congr 1
      exact (List.getElem?_eq_some_iff.1 h1).2
    rw [List.drop_drop, List.drop_drop] at h3
    conv => lhs; rw [← List.take_append_drop e (ds.drop q), List.drop_drop, h3]
    rw [show q + (e + 1) = q + e + 1 by omega]
  conv => lhs; rw [e1]
  exact lines_cut hn
theorem cut_no {ds : List UInt8} {q : Nat} (h : Lib.indexByte (ds.drop q) 10 = -1) (hq : q < ds.length) : linesL (ds.drop q) = [ds.drop q] := by
  refine lines_last (fun hm => ?_) (fun e => ?_)
  · obtain ⟨i, hi, hg⟩ := List.getElem_of_mem hm
    exact Lib.indexByte_none h i (by rw [List.getElem?_eq_getElem hi, hg])
  · have := congrArg List.length e
    rw [List.length_drop] at this
    simp at this
    omega
theorem bytes_drop {w : World} {b : Nat} {s : ByteArray} (h : Lib.Bytes w b 0 s) (q : Nat) : Lib.Bytes w b q ⟨(s.data.toList.drop q).toArray⟩ := by
  intro i hi
  have e : (⟨(s.data.toList.drop q).toArray⟩ : ByteArray).size = s.size - q := by
    show (s.data.toList.drop q).toArray.size = _
    simp
  have hqi : q + i < s.size := by rw [e] at hi; omega
  have h1 := h (q + i) hqi
  rw [Nat.zero_add] at h1
  rw [h1]
  congr 2
  have e2 : (⟨(s.data.toList.drop q).toArray⟩ : ByteArray)[i] = s[q + i] := by
    show ((s.data.toList.drop q).toArray)[i]'_ = s.data[q + i]'_
    simp
  rw [e2]
theorem bytes_below {w w' : World} {b o : Nat} {s : ByteArray} (h : Lib.Bytes w b o s) (hb : Below w.heap.size w w') (hlt : b < w.heap.size) : Lib.Bytes w' b o s := fun i hi => (hb.cell (p := ⟨b, o + i, none⟩) hlt).trans (h i hi)
set_option maxRecDepth 100000 in
set_option maxHeartbeats 4000000 in
theorem lines_any (b c : Nat) (s : ByteArray) (hs : s.size ≤ 20000) (hc : s.size ≤ c) (hc2 : c ≤ 9223372036854775807) (W : World) (hB : Lib.Bytes W b 0 s) (hlt : b < W.heap.size) :
    Calls Tryz.prog 24 #[.slice (some ⟨b, 0, none⟩) s.size c] W fun e w' => ∃ v vs, e = .returned v ∧ w'.ownsRow W.heap.size 54 1 v vs.length vs ∧ LinesAt b s.data.toList vs (linesL s.data.toList) ∧ Below W.heap.size W w' := by
  obtain ⟨i1, hi1, hy0, hy1, hy2⟩ := info_parts (show (Tryz.prog.info? 54).map (fun i => (i.zero, i.size, i.bytes)) = some (some (.slice none 0 0), 1, 24) by kernel_rfl)
  obtain ⟨n, Hn⟩ : ∃ n, Hid (n = s.size) := ⟨_, Lib.hid rfl⟩
  obtain ⟨ds, Hds⟩ : ∃ l, Hid (l = s.data.toList) := ⟨_, Lib.hid rfl⟩
  have HBy := Lib.hid hB
  have HLt := Lib.hid hlt
  have HLen : Hid (ds.length = n) := Lib.hid (by rw [Hds.out, Hn.out]; rfl)
  rw [← Hn.out] at hs hc ⊢
  rw [← Hds.out]
  clear hB hlt
  go_enter Tryz.func24, Tryz.ntmps24
  go_wp2_with fail
  go_loopw [0, 3, 4] (fun tv lv _ wr => ∃ (q m p cc : Nat) (vs : List Value) (L0 : List (List UInt8)), q + m = n ∧ tv = .slice (some ⟨b, p, none⟩) m cc ∧ m ≤ cc ∧ cc ≤ c ∧ (0 < m → p = q) ∧ vs.length ≤ q ∧
      Hid (Below W.heap.size W wr ∧ wr.ownsRow W.heap.size 54 1 lv vs.length vs ∧ LinesAt b ds vs L0 ∧ L0 ++ linesL (ds.drop q) = linesL ds)) (fun tv _ _ _ => match tv with | .slice _ m _ => m | _ => 0)
  case atStart => exact ⟨0, n, 0, c, [], [], by omega, rfl, hc, Nat.le_refl _, fun _ => rfl, Nat.le_refl _, Lib.hid ⟨Below.refl _ _, World.ownsRow_nil _ _ _ _, LinesAt.nil _ _, by simp⟩⟩
  case round =>
    obtain ⟨q, m, p, cc, vs, L0, hqm, rfl, hmc, hcc, hpq, hvq, HR⟩ := hrel
    by_cases hm : 0 < m
    · obtain rfl := hpq hm
      have hd : decide ((0 : Int) < m) = true := decide_eq_true (by omega)
      have HBr := Lib.hid (bytes_drop (bytes_below HBy.out HR.out.1 HLt.out) p)
      obtain ⟨t, Ht⟩ : ∃ t : ByteArray, Hid (t = ⟨(s.data.toList.drop p).toArray⟩) := ⟨_, Lib.hid rfl⟩
      have htm : t.size = m := by
        have h1 : t.size = s.data.toList.length - p := by rw [Ht.out]; show (s.data.toList.drop p).toArray.size = _; simp
        have h2 : s.data.toList.length = n := by rw [← Hds.out]; exact HLen.out
        omega
      have htd : t.data.toList = ds.drop p := by rw [Ht.out, Hds.out]
      rw [← Ht.out] at HBr
      have HIx := Lib.hid (Tryz.bytes_IndexByte_bytes b p cc t 10 wr HBr.out)
      rw [htm, htd] at HIx
      obtain ⟨ix, Hix⟩ : ∃ z : Int, Hid (z = Lib.indexByte (ds.drop p) 10) := ⟨_, Lib.hid rfl⟩
      have hge : -1 ≤ ix := by rw [Hix.out]; exact Lib.indexByte_ge _ _
      have HIx : Hid (Calls Tryz.prog 37 #[.slice (some ⟨b, p, none⟩) m cc, .int .u8 10] wr fun e w' => e = .returned (.int .i64 ix) ∧ wr = w') := Lib.hid (by rw [Hix.out]; exact HIx.out.mono fun _ _ h => ⟨h.1, h.2.symm⟩)
      clear htm htd
      go_wp2_with fail
      refine HIx.out.mono ?_
      rintro e _ ⟨rfl, rfl⟩
      by_cases hneg : ix < 0
      · obtain rfl : ix = -1 := by omega
        have HLl := Lib.hid (cut_no (Hix.out.symm) (by rw [HLen.out]; omega))
        have HLa : Hid (LineAt b ds (.slice (some ⟨b, p, none⟩) m cc) (ds.drop p)) := Lib.hid (by
          have hl : (ds.drop p).length = m := by rw [List.length_drop, HLen.out]; omega
          exact ⟨p, cc, by rw [hl], by rw [hl]; exact hmc, by rw [hl, HLen.out]; omega, by rw [hl, ← hl, List.take_length]⟩)
        have HN : Hid (∀ (i : Nat) (u : Value), [Value.slice (some ⟨b, p, none⟩) m cc][i]? = some u → (wr.alloc (.cells #[.slice (some ⟨b, p, none⟩) m cc] 54)).cell? ((⟨wr.heap.size, 0, none⟩ : Addr).add i) = some u) := Lib.hid (by
          intro i u hu
          have e : (⟨wr.heap.size, 0, none⟩ : Addr).add i = ⟨wr.heap.size, i, none⟩ := by unfold Addr.add; split <;> simp_all
          rw [e, cell_alloc, if_pos rfl]
          simpa using hu)
        have hwr := HR.out.1.size
        go_wp2_with (at_builtin; refine wpList_append_own _ rfl _ _ 52 rfl W.heap.size 54 i1 (.slice none 0 0) 1 24 Tryz.underlying52 hi1 hy0 hy1 hy2 rfl (by decide) _ _ _ rfl (HR.out.2.1.alloc _) ⟨wr.heap.size, 0, none⟩ 1 1 [.slice (some ⟨b, p, none⟩) m cc] rfl rfl HN.out (by simp [Value.oneCell']) (by unfold maxLen; omega) (by omega) (by rw [size_alloc]; omega) ?_; intro v' w2 hown hgrow _; have HW2 := Lib.hid hown; have HG2 := Lib.hid hgrow; clear hown hgrow)
        go_ret
        refine ⟨_, vs ++ [.slice (some ⟨b, p, none⟩) m cc], rfl, by rw [List.length_append]; exact HW2.out, ?_, (HR.out.1.alloc HR.out.1.size _).grown HG2.out (by rw [size_alloc]; omega) (fun j e => (HR.out.2.1.lt j e).1)⟩
        rw [← HR.out.2.2.2, HLl.out]
        exact HR.out.2.2.1.more HLa.out
      · obtain ⟨e, rfl⟩ : ∃ e : Nat, ix = (e : Int) := ⟨ix.toNat, by omega⟩
        have HCt := Lib.hid (cut_at (Hix.out.symm))
        have hem : e < m := by have := HCt.out.1; rw [HLen.out] at this; omega
        have HLa : Hid (LineAt b ds (.slice (some ⟨b, p, none⟩) e e) ((ds.drop p).take e)) := Lib.hid (by
          have hl := HCt.out.2.2.1
          exact ⟨p, e, by rw [hl], by rw [hl]; exact Nat.le_refl _, by rw [hl, HLen.out]; omega, by rw [hl]⟩)
        have HN : Hid (∀ (i : Nat) (u : Value), [Value.slice (some ⟨b, p, none⟩) e e][i]? = some u → (wr.alloc (.cells #[.slice (some ⟨b, p, none⟩) e e] 54)).cell? ((⟨wr.heap.size, 0, none⟩ : Addr).add i) = some u) := Lib.hid (by
          intro i u hu
          have e : (⟨wr.heap.size, 0, none⟩ : Addr).add i = ⟨wr.heap.size, i, none⟩ := by unfold Addr.add; split <;> simp_all
          rw [e, cell_alloc, if_pos rfl]
          simpa using hu)
        have hwr := HR.out.1.size
        have hdn : decide ((e : Int) < 0) = false := decide_eq_false (by omega)
        have he0 : (0 : Int) ≤ e := by omega
        have hem2 : (e : Int) ≤ cc := by omega
        have hw1 : IntKind.i64.wrap ((e : Int) + 1) = ((e + 1 : Nat) : Int) := by rw [IntKind.wrap_i64]; omega
        have he1 : (0 : Int) ≤ ((e + 1 : Nat) : Int) := by omega
        have he2 : ((e + 1 : Nat) : Int) ≤ (m : Int) := by omega
        go_wp2_with (at_builtin; refine wpList_append_own _ rfl _ _ 52 rfl W.heap.size 54 i1 (.slice none 0 0) 1 24 Tryz.underlying52 hi1 hy0 hy1 hy2 rfl (by decide) _ _ _ rfl (HR.out.2.1.alloc _) ⟨wr.heap.size, 0, none⟩ 1 1 [.slice (some ⟨b, p, none⟩) e e] rfl rfl HN.out (by simp [Value.oneCell']) (by unfold maxLen; omega) (by omega) (by rw [size_alloc]; omega) ?_; intro v' w2 hown hgrow _; have HW2 := Lib.hid hown; have HG2 := Lib.hid hgrow; clear hown hgrow)
        go_roundw
        case rel =>
          refine ⟨p + e + 1, m - (e + 1), if cc = e + 1 then p else p + (e + 1), cc - (e + 1), vs ++ [.slice (some ⟨b, p, none⟩) e e], L0 ++ [(ds.drop p).take e], by omega, ?_, by omega, by omega, fun h => by rw [if_neg (by omega)]; omega, by rw [List.length_append]; show vs.length + 1 ≤ _; omega, Lib.hid ⟨?_, by rw [List.length_append]; exact HW2.out, HR.out.2.2.1.more HLa.out, ?_⟩⟩
          · by_cases hce : cc = e + 1
            · simp [hce]
            · simp [hce]
          · exact (HR.out.1.alloc HR.out.1.size _).grown HG2.out (by rw [size_alloc]; omega) (fun j e => (HR.out.2.1.lt j e).1)
          · rw [← HR.out.2.2.2, HCt.out.2.2.2, List.append_assoc]
            rfl
        case measure => simp; omega
    · obtain rfl : m = 0 := by omega
      have hd : decide ((0 : Int) < (0 : Nat)) = false := by decide
      go_wp2_with fail
      go_ret
      refine ⟨_, vs, rfl, HR.out.2.1, ?_, HR.out.1⟩
      have hq : q = n := by omega
      have e : L0 = linesL ds := by
        have := HR.out.2.2.2
        rw [hq, ← HLen.out, List.drop_length, lines_nil, List.append_nil] at this
        exact this
      rw [← e]
      exact HR.out.2.2.1
end Go.Proofs.YtfkejnnbfneieaaGreatDoor
