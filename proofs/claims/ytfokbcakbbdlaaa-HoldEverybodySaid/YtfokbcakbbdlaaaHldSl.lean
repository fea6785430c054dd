/- The library's functions on lists of numbers; Out. -/
import Derived.Test.YtfokbcakbbdlaaaHldIs
import Derived.Test.YtfokbcakbbdlaaaShelf
import Derived.ProofKit
import Derived.BigQuiet
namespace Go.Proofs.Ytfokbcakbbdlaaa
open Go.RowKit
open Hld (Rc Hd)

theorem cell_below {B : Nat} {W w' : World} {g o : Nat} (h : Below B W w') (hg : g < B) : w'.cell? ⟨g, o, none⟩ = W.cell? ⟨g, o, none⟩ := h.cell (p := ⟨g, o, none⟩) hg
theorem getD_is {zs : List Int} {j : Nat} (hj : j < zs.length) : zs.getD j 0 = zs[j] := by
  rw [List.getD_eq_getElem?_getD, List.getElem?_eq_getElem hj]; rfl
theorem contains_any (ao : Option Addr) (zs : List Int) (c : Nat) (x : Int) (hl : zs.length ≤ 9223372036854775807) (w : World) (h : IsInts w ao zs) :
    Calls Try.prog 24 #[.slice ao zs.length c, .int .i64 x] w fun e w' => e = .returned (.bool (zs.contains x)) ∧ w' = w := by
  rcases h with rfl | ⟨bk, off, rfl, h1, h2⟩
  · exact Try.slices_Contains_int_empty ao c x w
  · have := Try.slices_Contains_int bk off zs.length c zs x w (Nat.le_refl _) hl (fun j hj => by rw [h2 j hj, getD_is hj])
    rw [List.take_length] at this
    exact this
def intsC (zs : List Int) : List Value := zs.map (Value.int .i64)
theorem intsC_len (zs : List Int) : (intsC zs).length = zs.length := by unfold intsC; rw [List.length_map]
theorem ints_of_row {w : World} {B : Nat} {ao : Option Addr} {zs : List Int} {c : Nat} (h : w.ownsRow B 3 1 (.slice ao zs.length c) zs.length (intsC zs)) : IsInts w ao zs := by
  rcases h.2 with ⟨h1, h0⟩ | ⟨g, cap, cur, hv, hB, hc, _, _, _, htk⟩
  · exact Or.inl (List.eq_nil_of_length_eq_zero h0)
  · injection hv with hv
    subst hv
    refine Or.inr ⟨g, 0, rfl, (Array.getElem?_eq_some_iff.1 hc).1, fun k hk => ?_⟩
    have hw : Whole w g 3 cur := hc
    rw [Nat.zero_add, hw.cell, ← Array.getElem?_toList]
    have h3 : (intsC zs)[k]? = some (.int .i64 zs[k]) := by unfold intsC; rw [List.getElem?_map, List.getElem?_eq_getElem hk]; rfl
    rw [← htk, List.getElem?_take_of_lt (by omega)] at h3
    exact h3
theorem clone_any (ao : Option Addr) (zs : List Int) (c : Nat) (hl : zs.length ≤ 1000000) (w : World) (h : IsInts w ao zs) :
    Calls Try.prog 23 #[.slice ao zs.length c] w fun e w' => ∃ v', e = .returned v' ∧ w'.ownsRow w.heap.size 3 1 v' zs.length (intsC zs) ∧ Below w.heap.size w w' := by
  have hE : Calls Try.prog 23 #[.slice ao 0 c] w fun e w' => ∃ v', e = .returned v' ∧ w'.ownsRow w.heap.size 3 1 v' 0 (intsC []) ∧ Below w.heap.size w w' := by
    cases ao with
    | none =>
      refine (Try.slices_Clone_int_nil 0 c w).mono ?_
      rintro e w' ⟨he, hw⟩
      subst hw
      exact ⟨_, he, World.ownsRow_nil _ _ _ _, Below.refl _ _⟩
    | some a =>
      refine (Try.slices_Clone_int_zero a c w).mono ?_
      rintro e w' ⟨v', he, ho, _, hb⟩
      exact ⟨v', he, ho, hb⟩
  rcases h with rfl | ⟨bk, off, rfl, h1, h2⟩
  · exact hE
  · have := Try.slices_Clone_int bk off zs.length c zs w (Nat.le_refl _) (by omega) (fun j hj => by rw [h2 j hj, getD_is hj])
    rw [List.take_length] at this
    exact this.mono fun e w' ⟨v', he, ho, _, hb⟩ => ⟨v', he, ho, hb⟩

/-! ### Out -/
set_option maxRecDepth 100000 in
set_option maxHeartbeats 2000000 in
theorem out1_any (bh : Nat) (m : Int) (bo : Option Addr) (back : List Int) (bc : Nat) (hl : back.length ≤ 9223372036854775807) (w : World) (h : w.cell? ⟨bh, 3, none⟩ = some (.slice bo back.length bc)) (hb : IsInts w bo back) :
    Calls Try.prog 26 #[.int .i64 m, .pointer (some ⟨bh, 0, none⟩)] w fun e w' => e = .returned (.bool (!back.contains m)) ∧ w' = w := by
  have HC := Lib.hid (contains_any bo back bc m hl w hb)
  obtain ⟨u, Hu⟩ : ∃ u, Hid (u = back.contains m) := ⟨_, Lib.hid rfl⟩
  rw [← Hu.out]
  rw [← Hu.out] at HC
  obtain ⟨n, Hn⟩ : ∃ n, Hid (n = back.length) := ⟨_, Lib.hid rfl⟩
  rw [← Hn.out] at h HC
  go_enter Try.func26, Try.ntmps26
  go_wp2_with fail
  refine HC.out.mono ?_
  rintro e w' ⟨rfl, hw⟩
  subst hw
  go_wp2_with fail
  go_ret
  exact ⟨rfl, rfl⟩
theorem call_out1 : ∀ args w, (callFunc 26 args).run Try.prog w = .ok (.enter 26 args) w := fun _ _ => by kernel_rfl

set_option maxRecDepth 100000 in
set_option maxHeartbeats 4000000 in
theorem indexFunc_out (bh : Nat) (bo : Option Addr) (back : List Int) (bc : Nat) (hl : back.length ≤ 9223372036854775807) (mo : Option Addr) (ms : List Int) (mc : Nat) (hm : ms.length ≤ 9223372036854775807) (W : World) (h : W.cell? ⟨bh, 3, none⟩ = some (.slice bo back.length bc)) (hb : IsInts W bo back) (hms : IsInts W mo ms) :
    Calls Try.prog 30 #[.slice mo ms.length mc, .func (.func 26) #[] #[.pointer (some ⟨bh, 0, none⟩)]] W fun e w' => ∃ i : Int, e = .returned (.int .i64 i) ∧ decide (0 ≤ i) = (ms.any fun m => !back.contains m) ∧ Below W.heap.size W w' := by
  have hlt := lt_of_cell h
  have HC := Lib.hid (fun (m : Int) (w : World) (hw : Below W.heap.size W w) => out1_any bh m bo back bc hl w ((cell_below hw hlt).trans h) (hb.below hw))
  have HM := Lib.hid hms
  clear hms hb h
  obtain ⟨n, Hn⟩ : ∃ n, Hid (n = ms.length) := ⟨_, Lib.hid rfl⟩
  rw [← Hn.out]
  rw [← Hn.out] at hm
  go_enter Try.func30, Try.ntmps30
  go_wp2_with fail
  go_loopw [8] (fun i wr => ∃ k : Nat, k ≤ n ∧ i = .int .i64 k ∧ Hid (Below W.heap.size W wr ∧ (ms.take k).any (fun m => !back.contains m) = false)) (fun i _ => n - (intOf i).toNat)
  case atStart => exact ⟨0, Nat.zero_le _, by go_num, Lib.hid ⟨Below.refl _ _, rfl⟩⟩
  case round =>
    obtain ⟨k, hk, rfl, HR⟩ := hrel
    by_cases hkn : k < n
    · have hd : decide ((k : Int) < n) = true := decide_eq_true (by omega)
      have hb0 : (0 : Int) ≤ k := by omega
      have hb1 : (k : Int) < n := by omega
      have hkl : k < ms.length := by rw [← Hn.out]; exact hkn
      obtain ⟨bk, off, rfl, hbk, hc⟩ := HM.out.at hkl
      obtain ⟨m, Hm⟩ : ∃ m, Hid (m = ms[k]) := ⟨_, Lib.hid rfl⟩
      rw [← Hm.out] at hc
      replace hc := (cell_below HR.out.1 hbk).trans hc
      have hC := Lib.hid (HC.out m wr HR.out.1)
      obtain ⟨u, Hu⟩ : ∃ u, Hid (u = !back.contains m) := ⟨_, Lib.hid rfl⟩
      rw [← Hu.out] at hC
      have htk : ms.take (k + 1) = ms.take k ++ [m] := by rw [Hm.out]; exact List.take_succ_eq_append_getElem hkl
      have hmem : m ∈ ms := by rw [Hm.out]; exact List.getElem_mem hkl
      cases u with
      | true =>
        have HA : Hid (true = (ms.any fun m => !back.contains m)) := Lib.hid (by
          rw [eq_comm, List.any_eq_true]
          exact ⟨m, hmem, Hu.out.symm⟩)
        clear htk hmem Hu
        go_wp2_with fail
        refine hC.out.mono ?_
        rintro e w' ⟨rfl, hw⟩
        subst hw
        go_wp2_with fail
        go_ret
        exact ⟨k, rfl, by rw [← HA.out]; exact decide_eq_true hb0, HR.out.1⟩
      | false =>
        have HN : Hid ((ms.take (k + 1)).any (fun m => !back.contains m) = false) := Lib.hid (by
          rw [htk, List.any_append, HR.out.2, List.any_cons, ← Hu.out]; rfl)
        clear htk hmem Hu
        go_wp2_with fail
        refine hC.out.mono ?_
        rintro e w' ⟨rfl, hw⟩
        subst hw
        go_wp2_with fail
        go_round
        case rel => exact ⟨k + 1, by omega, by go_num, Lib.hid ⟨HR.out.1, HN.out⟩⟩
        case measure => simp [intOf]; omega
    · have hd : decide ((k : Int) < n) = false := decide_eq_false (by omega)
      have HA : Hid ((ms.any fun m => !back.contains m) = false) := Lib.hid (by
        have := HR.out.2
        rw [List.take_of_length_le (by rw [← Hn.out]; omega)] at this
        exact this)
      go_wp2_with fail
      go_ret
      exact ⟨-1, rfl, by rw [HA.out]; rfl, HR.out.1⟩

set_option maxRecDepth 100000 in
set_option maxHeartbeats 2000000 in
theorem containsFunc_out (bh : Nat) (bo : Option Addr) (back : List Int) (bc : Nat) (hl : back.length ≤ 9223372036854775807) (mo : Option Addr) (ms : List Int) (mc : Nat) (hm : ms.length ≤ 9223372036854775807) (W : World) (h : W.cell? ⟨bh, 3, none⟩ = some (.slice bo back.length bc)) (hb : IsInts W bo back) (hms : IsInts W mo ms) :
    Calls Try.prog 27 #[.slice mo ms.length mc, .func (.func 26) #[] #[.pointer (some ⟨bh, 0, none⟩)]] W fun e w' => e = .returned (.bool (ms.any fun m => !back.contains m)) ∧ Below W.heap.size W w' := by
  have HI := Lib.hid (indexFunc_out bh bo back bc hl mo ms mc hm W h hb hms)
  clear h hb hms
  obtain ⟨u, Hu⟩ : ∃ u, Hid (u = ms.any fun m => !back.contains m) := ⟨_, Lib.hid rfl⟩
  rw [← Hu.out]
  rw [← Hu.out] at HI
  obtain ⟨n, Hn⟩ : ∃ n, Hid (n = ms.length) := ⟨_, Lib.hid rfl⟩
  rw [← Hn.out]
  rw [← Hn.out] at HI
  go_enter Try.func27, Try.ntmps27
  go_wp2_with fail
  refine HI.out.mono ?_
  rintro e w' ⟨i, rfl, hi, hb⟩
  have HB := Lib.hid hb
  clear hb
  go_wp2_with fail
  go_ret
  exact ⟨rfl, HB.out⟩

/-- The four cells of a hold, as a value. -/
def hdV (h : Hd) (mo : Option Addr) (mc : Nat) (bo : Option Addr) (bc : Nat) : Value := .agg #[.string h.id, .string h.vehicle, .slice mo h.members.length mc, .slice bo h.back.length bc]
set_option maxRecDepth 100000 in
set_option maxHeartbeats 2000000 in
theorem out_any (h : Hd) (mo : Option Addr) (mc : Nat) (bo : Option Addr) (bc : Nat) (hl : h.back.length ≤ 9223372036854775807) (hm : h.members.length ≤ 9223372036854775807) (W : World) (hms : IsInts W mo h.members) (hb : IsInts W bo h.back) :
    Calls Try.prog 13 #[hdV h mo mc bo bc] W fun e w' => e = .returned (.bool (Hld.out h)) ∧ Below W.heap.size W w' := by
  obtain ⟨id, ve, ms, back⟩ := h
  have hmf : ∀ (fn : Fn) (first cap : Array Value) (w : World), (Instr.makeFunc fn first cap).run Try.prog w = .ok (.func fn first cap) w := fun _ _ _ _ => rfl
  have HI := Lib.hid (fun w (hw : Below W.heap.size W w) bh h => containsFunc_out bh bo back bc hl mo ms mc hm w h (hb.below hw) (hms.below hw))
  unfold hdV Hld.out
  dsimp only
  clear hms hb
  obtain ⟨u, Hu⟩ : ∃ u, Hid (u = ms.any fun m => !back.contains m) := ⟨_, Lib.hid rfl⟩
  rw [← Hu.out]
  rw [← Hu.out] at HI
  obtain ⟨n, Hn⟩ : ∃ n, Hid (n = ms.length) := ⟨_, Lib.hid rfl⟩
  obtain ⟨k, Hk⟩ : ∃ n, Hid (n = back.length) := ⟨_, Lib.hid rfl⟩
  rw [← Hn.out, ← Hk.out]
  rw [← Hn.out, ← Hk.out] at HI
  go_enter Try.func13, Try.ntmps13
  go_wp2_with fail
  have hw : Below W.heap.size W (W.alloc (.cells #[.string id, .string ve, .slice mo n mc, .slice bo k bc] 31)) := (Below.refl _ _).alloc (Nat.le_refl _) _
  have hc : (W.alloc (.cells #[.string id, .string ve, .slice mo n mc, .slice bo k bc] 31)).cell? ⟨W.heap.size, 3, none⟩ = some (.slice bo k bc) := (Whole.new _ _ _).cell 3
  refine (HI.out _ hw _ hc).mono ?_
  rintro e w' ⟨rfl, hb⟩
  have HB := Lib.hid (below_step hw hb)
  clear hb
  go_wp2_with fail
  go_ret
  exact ⟨rfl, HB.out⟩

/-! ### The reference's In, ints -/
set_option maxRecDepth 100000 in
set_option maxHeartbeats 2000000 in
theorem in_any (ao : Option Addr) (zs : List Int) (c : Nat) (x : Int) (hl : zs.length ≤ 9223372036854775807) (W : World) (h : IsInts W ao zs) :
    Calls Try.prog 18 #[.slice ao zs.length c, .int .i64 x] W fun e w' => e = .returned (.bool (zs.contains x)) ∧ W = w' := by
  have HM := Lib.hid h
  clear h
  obtain ⟨u, Hu⟩ : ∃ u, Hid (u = zs.contains x) := ⟨_, Lib.hid rfl⟩
  rw [← Hu.out]
  obtain ⟨n, Hn⟩ : ∃ n, Hid (n = zs.length) := ⟨_, Lib.hid rfl⟩
  rw [← Hn.out]
  rw [← Hn.out] at hl
  go_enter Try.func18, Try.ntmps18
  go_wp2_with fail
  go_loopw [5] (fun i wr => ∃ k : Nat, k ≤ n ∧ wr = W ∧ i = .int .i64 k ∧ Hid ((zs.take k).contains x = false)) (fun i _ => n - (intOf i).toNat)
  case atStart => exact ⟨0, Nat.zero_le _, rfl, by go_num, Lib.hid rfl⟩
  case round =>
    obtain ⟨k, hk, hw, rfl, HR⟩ := hrel
    replace hw := hw.symm
    subst hw
    by_cases hkn : k < n
    · have hd : decide ((k : Int) < n) = true := decide_eq_true (by omega)
      have hb0 : (0 : Int) ≤ k := by omega
      have hb1 : (k : Int) < n := by omega
      have hkl : k < zs.length := by rw [← Hn.out]; exact hkn
      obtain ⟨bk, off, rfl, hbk, hc⟩ := HM.out.at hkl
      obtain ⟨m, Hm⟩ : ∃ m, Hid (m = zs[k]) := ⟨_, Lib.hid rfl⟩
      rw [← Hm.out] at hc
      have htk : zs.take (k + 1) = zs.take k ++ [m] := by rw [Hm.out]; exact List.take_succ_eq_append_getElem hkl
      have hmem : m ∈ zs := by rw [Hm.out]; exact List.getElem_mem hkl
      by_cases he : m = x
      · subst he
        have hu : u = true := by rw [Hu.out]; simpa using hmem
        subst hu
        clear htk hmem
        go_wp2_with fail
        go_ret
        exact ⟨rfl, rfl⟩
      · have hne : (m == x) = false := by simpa using he
        have HN : Hid ((zs.take (k + 1)).contains x = false) := Lib.hid (by
          have h1 := HR.out
          rw [htk]
          simp at h1 ⊢
          exact ⟨h1, fun h => he h.symm⟩)
        clear htk hmem he
        go_wp2_with fail
        go_round
        case rel => exact ⟨k + 1, by omega, trivial, by go_num, HN⟩
        case measure => simp [intOf]; omega
    · have hd : decide ((k : Int) < n) = false := decide_eq_false (by omega)
      have hu : u = false := by
        have := HR.out
        rw [List.take_of_length_le (by rw [← Hn.out]; omega)] at this
        rw [Hu.out, this]
      subst hu
      go_wp2_with fail
      go_ret
      exact ⟨rfl, rfl⟩

end Go.Proofs.Ytfokbcakbbdlaaa
