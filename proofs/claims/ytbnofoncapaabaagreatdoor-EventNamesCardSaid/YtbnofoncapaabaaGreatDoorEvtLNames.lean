/- EventNames. -/
import Derived.Test.YtbnofoncapaabaaGreatDoorEvtHead
import Derived.Test.YtbnofoncapaabaaGreatDoorEvtShort
import Derived.Test.YtbnofoncapaabaaGreatDoorEvtNamesM
import Derived.Test.YtbnofoncapaabaaGreatDoorLexName
namespace Go.Proofs.YtbnofoncapaabaaGreatDoor
open Go.RowKit
open Evt

def nm11 (bn c n k N0 : Nat) (s pt : ByteArray) (b : Bool) : Nat → Value → World → Prop
  | 0, v, _ => v = .bool false
  | 1, v, _ => v = .bool false
  | 2, v, _ => v = .slice (some ⟨bn, 0, none⟩) n c
  | 3, v, _ => v = .int .i64 k
  | 4, v, _ => v = .pointer (some ⟨bn, 0 + k * 1, none⟩)
  | 5, v, _ => v = .string s
  | 6, v, _ => v = .pointer (some ⟨N0, 2, none⟩)
  | 7, v, _ => v = .string pt
  | 8, v, _ => v = .bool b
  | 9, v, _ => v = .bool b
  | 10, v, _ => v = .bool b
  | _, _, _ => True
theorem nm11_below {bn c n k N0 : Nat} {s pt : ByteArray} {b : Bool} : ∀ j u w w', nm11 bn c n k N0 s pt b j u w → Below w.heap.size w w' → nm11 bn c n k N0 s pt b j u w'
  | 0, _, _, _, h, _ => h
  | 1, _, _, _, h, _ => h
  | 2, _, _, _, h, _ => h
  | 3, _, _, _, h, _ => h
  | 4, _, _, _, h, _ => h
  | 5, _, _, _, h, _ => h
  | 6, _, _, _, h, _ => h
  | 7, _, _, _, h, _ => h
  | 8, _, _, _, h, _ => h
  | 9, _, _, _, h, _ => h
  | 10, _, _, _, h, _ => h
  | _ + 11, _, _, _, _, _ => trivial
def nm11eV (_ : Unit) : Nat → Value → Prop
  | 0, v => v = .bool true
  | 1, v => v = .bool true
  | 2, v => v = .bool true
  | 3, v => v = .bool true
  | 4, v => v = .bool true
  | 5, v => v = .bool true
  | 6, v => v = .bool true
  | 7, v => v = .bool true
  | 8, v => v = .bool true
  | 9, v => v = .bool true
  | 10, v => v = .bool true
  | _, _ => True
def nm12 (bn c n k N0 : Nat) (s it : ByteArray) (ci : Bool) : Nat → Value → World → Prop
  | 0, v, _ => v = .bool false
  | 1, v, _ => v = .bool false
  | 2, v, _ => v = .slice (some ⟨bn, 0, none⟩) n c
  | 3, v, _ => v = .int .i64 k
  | 4, v, _ => v = .pointer (some ⟨bn, 0 + k * 1, none⟩)
  | 5, v, _ => v = .string s
  | 6, v, _ => v = .pointer (some ⟨N0, 4, none⟩)
  | 7, v, _ => v = .string it
  | 8, v, _ => v = .bool ci
  | 9, v, _ => v = .bool ci
  | 10, v, _ => v = .bool ci
  | _, _, _ => True
theorem nm12_below {bn c n k N0 : Nat} {s it : ByteArray} {ci : Bool} : ∀ j u w w', nm12 bn c n k N0 s it ci j u w → Below w.heap.size w w' → nm12 bn c n k N0 s it ci j u w'
  | 0, _, _, _, h, _ => h
  | 1, _, _, _, h, _ => h
  | 2, _, _, _, h, _ => h
  | 3, _, _, _, h, _ => h
  | 4, _, _, _, h, _ => h
  | 5, _, _, _, h, _ => h
  | 6, _, _, _, h, _ => h
  | 7, _, _, _, h, _ => h
  | 8, _, _, _, h, _ => h
  | 9, _, _, _, h, _ => h
  | 10, _, _, _, h, _ => h
  | _ + 11, _, _, _, _, _ => trivial
def nm12eV (_ : Unit) : Nat → Value → Prop
  | 0, v => v = .bool true
  | 1, v => v = .bool true
  | 2, v => v = .bool true
  | 3, v => v = .bool true
  | 4, v => v = .bool true
  | 5, v => v = .bool true
  | 6, v => v = .bool true
  | 7, v => v = .bool true
  | 8, v => v = .bool true
  | 9, v => v = .bool true
  | 10, v => v = .bool true
  | _, _ => True
def nm13 (bn c n k jj : Nat) (s p : ByteArray) : Nat → Value → World → Prop
  | 0, v, _ => v = .slice (some ⟨bn, 0, none⟩) n c
  | 1, v, _ => v = .int .i64 k
  | 2, v, _ => v = .pointer (some ⟨bn, 0 + k * 1, none⟩)
  | 3, v, _ => v = .string s
  | 4, v, _ => v = .bool true
  | 5, v, _ => v = .bool false
  | 6, v, _ => v = .bool false
  | 7, v, _ => v = .int .i64 k
  | 8, v, _ => v = .bool true
  | 9, v, _ => v = .bool true
  | 10, v, _ => v = .slice (some ⟨bn, 0, none⟩) n c
  | 11, v, _ => v = .int .i64 k
  | 12, v, _ => v = .int .i64 jj
  | 13, v, _ => v = .pointer (some ⟨bn, 0 + jj * 1, none⟩)
  | 14, v, _ => v = .string p
  | 15, v, _ => v = .slice (some ⟨bn, 0, none⟩) n c
  | 16, v, _ => v = .int .i64 k
  | 17, v, _ => v = .pointer (some ⟨bn, 0 + k * 1, none⟩)
  | 18, v, _ => v = .string s
  | 19, v, _ => v = .bool false
  | 20, v, _ => v = .bool false
  | 21, v, _ => v = .bool false
  | _, _, _ => True
theorem nm13_below {bn c n k jj : Nat} {s p : ByteArray} : ∀ j u w w', nm13 bn c n k jj s p j u w → Below w.heap.size w w' → nm13 bn c n k jj s p j u w'
  | 0, _, _, _, h, _ => h
  | 1, _, _, _, h, _ => h
  | 2, _, _, _, h, _ => h
  | 3, _, _, _, h, _ => h
  | 4, _, _, _, h, _ => h
  | 5, _, _, _, h, _ => h
  | 6, _, _, _, h, _ => h
  | 7, _, _, _, h, _ => h
  | 8, _, _, _, h, _ => h
  | 9, _, _, _, h, _ => h
  | 10, _, _, _, h, _ => h
  | 11, _, _, _, h, _ => h
  | 12, _, _, _, h, _ => h
  | 13, _, _, _, h, _ => h
  | 14, _, _, _, h, _ => h
  | 15, _, _, _, h, _ => h
  | 16, _, _, _, h, _ => h
  | 17, _, _, _, h, _ => h
  | 18, _, _, _, h, _ => h
  | 19, _, _, _, h, _ => h
  | 20, _, _, _, h, _ => h
  | 21, _, _, _, h, _ => h
  | _ + 22, _, _, _, _, _ => trivial
def nm13zV (bn c n : Nat) (s : ByteArray) : Nat → Value → Prop
  | 0, v => v = .slice (some ⟨bn, 0, none⟩) n c
  | 1, v => v = .int .i64 0
  | 2, v => v = .pointer (some ⟨bn, 0 + 0 * 1, none⟩)
  | 3, v => v = .string s
  | 4, v => v = .bool true
  | 5, v => v = .bool false
  | 6, v => v = .bool false
  | 7, v => v = .int .i64 0
  | 8, v => v = .bool false
  | 9, v => v = .bool false
  | 10, v => v = .bool true
  | 11, v => v = .bool true
  | 12, v => v = .bool true
  | 13, v => v = .bool true
  | 14, v => v = .bool true
  | 15, v => v = .bool true
  | 16, v => v = .bool true
  | 17, v => v = .bool true
  | 18, v => v = .bool true
  | 19, v => v = .bool true
  | 20, v => v = .bool false
  | 21, v => v = .bool false
  | _, _ => True
set_option maxRecDepth 100000 in
set_option maxHeartbeats 16000000 in
theorem lawNames_any (x : Ev) (hx : Sz x) (W : World) (hT : WTab W) (ht : Tab W) (hE : Errs W) :
    Calls Tryz.prog 4 #[.agg (evC x).toArray] W fun e w' => e = .returned (.bool true) ∧ Below W.heap.size W w' := by
  obtain ⟨V, HV⟩ : ∃ w, Hid (w = W.alloc (.cells (evC x).toArray 27)) := ⟨_, Lib.hid rfl⟩
  obtain ⟨N0, HN⟩ : ∃ N, Hid (N = W.heap.size) := ⟨_, Lib.hid rfl⟩
  have hB : Below W.heap.size W V := by rw [HV.out]; exact (Below.refl _ _).alloc (Nat.le_refl _) _
  have HW : Hid (Whole V N0 27 (evC x).toArray) := Lib.hid (by rw [HV.out, HN.out]; exact Whole.new _ _ _)
  have HH := Lib.hid (head09_any V (hT.below hB) (ht.below hB) (hE.below hB))
  have HB := Lib.hid hB
  have HSp := Lib.hid ev_size
  have HSx := Lib.hid hx
  have HSh := Lib.hid (fun w => short_any x w)
  have HVd := Lib.hid (evValid_any x hx)
  obtain ⟨sh, Hsh⟩ : ∃ b, Hid (b = shortE x) := ⟨_, Lib.hid rfl⟩
  obtain ⟨vd, Hvd⟩ : ∃ b, Hid (b = Evt.valid x) := ⟨_, Lib.hid rfl⟩
  obtain ⟨NM, HNM⟩ : ∃ b, Hid (b = namesE x) := ⟨_, Lib.hid rfl⟩
  have HNm := Lib.hid (evNames_any x hx)
  rw [← Hsh.out] at HSh
  rw [← Hvd.out] at HVd
  rw [← HNM.out] at HNm
  clear hT ht hE hB hx
  go_enter Tryz.func4, Tryz.ntmps4
  go_wp2_with fail
  rw [← HV.out, ← HN.out]
  refine HH.out.mono ?_
  rintro e w1 ⟨rfl, hb⟩
  have HB1 := Lib.hid (below_step HB.out hb)
  have HW1 := Lib.hid (whole_belowM HW.out hb)
  clear hb
  go_wp2_with (first
    | (with_reducible show wpList _ _ _ (Oper.mk _ (Op.load 27 _) _ _ _ _ :: _) _ _; refine wpList_load_mid rfl _ _ rfl N0 0 rfl (evC x) _ (Whole.range HW1.out) Tryz.underlying27 rfl (HSp.out.trans rfl) ?_))
  refine (HSh.out w1).mono ?_
  rintro e w3 ⟨rfl, hb⟩
  have HB3 := Lib.hid (below_step HB1.out hb)
  have HW3 := Lib.hid (whole_belowM HW1.out hb)
  clear hb
  cases sh with
  | false =>
    go_wp2_with fail
    go_ret
    exact ⟨rfl, HB3.out⟩
  | true =>
  go_wp2_with (first
    | (with_reducible show wpList _ _ _ (Oper.mk _ (Op.load 27 _) _ _ _ _ :: _) _ _; refine wpList_load_mid rfl _ _ rfl N0 0 rfl (evC x) _ (Whole.range HW3.out) Tryz.underlying27 rfl (HSp.out.trans rfl) ?_))
  refine (HNm.out w3).mono ?_
  rintro e w4 ⟨v, rfl, ho, hb⟩
  have HS4 := IsS.owns ho
  have HB4 := Lib.hid (below_step HB3.out hb)
  have HW4 := Lib.hid (whole_belowM HW3.out hb)
  clear hb ho
  go_wp2_with (first
    | (with_reducible show wpList _ _ _ (Oper.mk _ (Op.load 27 _) _ _ _ _ :: _) _ _; refine wpList_load_mid rfl _ _ rfl N0 0 rfl (evC x) _ (Whole.range HW4.out) Tryz.underlying27 rfl (HSp.out.trans rfl) ?_))
  refine (HVd.out w4).mono ?_
  rintro e w5 ⟨rfl, hb⟩
  have HB5 := Lib.hid (below_step HB4.out hb)
  have HW5 := Lib.hid (whole_belowM HW4.out hb)
  have HS5 := HS4.below hb
  clear hb HS4
  obtain ⟨ao, c, rfl, hcell⟩ := HS5
  cases vd with
  | false =>
    have hn0 : NM = [] := by rw [HNM.out]; unfold namesE; rw [← Hvd.out]; rfl
    subst hn0
    clear hcell
    go_wp2_with fail
    go_ret
    exact ⟨rfl, HB5.out⟩
  | true =>
  have HSa := Lib.hid (names_shape Hvd.out.symm)
  have HNn := Lib.hid (names_nm Hvd.out.symm)
  rw [← HNM.out] at HSa HNn
  have hpos : 0 < NM.length := by rw [HNM.out]; exact namesE_pos Hvd.out.symm
  obtain ⟨bn, rfl, hbn, -⟩ := hcell 0 hpos
  obtain ⟨n, Hn⟩ : ∃ n, Hid (n = NM.length) := ⟨_, Lib.hid rfl⟩
  have hn2 : n ≤ 2 := by rw [Hn.out, HNM.out]; exact namesE_len x
  have HCell : Hid (∀ j, j < n → ∀ w, Below w5.heap.size w5 w → w.cell? ⟨bn, 0 + j * 1, none⟩ = some (.string ⟨(NM.getD j []).toArray⟩)) := Lib.hid (fun j hj w hw => by
    have hj' : j < NM.length := by rw [← Hn.out]; exact hj
    obtain ⟨b, h1, h2, h3⟩ := hcell j hj'
    cases h1
    have e : 0 + j * 1 = j := by omega
    rw [e, cellB hw h2, h3, List.getD_eq_getElem?_getD, List.getElem?_eq_getElem hj']
    rfl)
  rw [← Hn.out]
  clear hcell hbn hpos
  obtain ⟨pt, Hpt⟩ : ∃ s, Hid (s = x.part) := ⟨_, Lib.hid rfl⟩
  obtain ⟨it, Hit⟩ : ∃ s, Hid (s = x.into) := ⟨_, Lib.hid rfl⟩
  have HEv : Hid (∀ w, Below w5.heap.size w5 w → w.cell? ⟨N0, 2, none⟩ = some (.string pt) ∧ w.cell? ⟨N0, 4, none⟩ = some (.string it)) := Lib.hid (fun w hw => by
    rw [Hpt.out, Hit.out]
    exact ⟨(whole_belowM HW5.out hw).cell 2, (whole_belowM HW5.out hw).cell 4⟩)
  obtain ⟨pk, Hpk⟩ : ∃ f : Nat → Bool, Hid (∀ k, f k = decide (bts pt ∈ NM.take k)) := ⟨_, Lib.hid fun _ => rfl⟩
  obtain ⟨qk, Hqk⟩ : ∃ f : Nat → Bool, Hid (∀ k, f k = decide (bts it ∈ NM.take k)) := ⟨_, Lib.hid fun _ => rfl⟩
  have HLess : Hid (∀ j, j + 1 < n → Op.bytesLess (NM.getD j []) (NM.getD (j + 1) []) = true) := Lib.hid (fun j hj => by
    rcases HSa.out with ⟨-, h1, -⟩ | ⟨-, c, d, h1, h2, -, -⟩
    · rw [Hn.out, h1] at hj; simp at hj
    · have : j = 0 := by omega
      subst this
      rw [h1]; exact h2)
  have HP0 : Hid (Value.bool false = .bool (pk 0)) := Lib.hid (by rw [Hpk.out]; simp)
  have HQ0 : Hid (Value.bool false = .bool (qk 0)) := Lib.hid (by rw [Hqk.out]; simp)
  have HR0 := Lib.hid (Below.refl w5.heap.size w5)
  go_wp2_with fail
  go_loopw [5, 6, 7] (fun p q i wr => ∃ k : Nat, k ≤ n ∧ i = .int .i64 k ∧ p = .bool (pk k) ∧ q = .bool (qk k) ∧ Hid (Below w5.heap.size w5 wr)) (fun _ _ i _ => n - (intOf i).toNat)
  case atStart => exact ⟨0, by omega, by go_num, HP0.out, HQ0.out, HR0⟩
  case round =>
    obtain ⟨k, hk, rfl, rfl, rfl, HR⟩ := hrel
    by_cases hkn : k < n
    · have hd2 : decide ((k : Int) < n) = true := decide_eq_true (by omega)
      have hb0 : (0 : Int) ≤ k := by omega
      have hb1 : (k : Int) < n := by omega
      obtain ⟨s, Hs⟩ : ∃ s : ByteArray, Hid (s = ⟨(NM.getD k []).toArray⟩) := ⟨_, Lib.hid rfl⟩
      obtain ⟨b, Hb⟩ : ∃ b, Hid ((s.toList == pt.toList) = b) := ⟨_, Lib.hid rfl⟩
      obtain ⟨ci, Hc⟩ : ∃ b, Hid ((s.toList == it.toList) = b) := ⟨_, Lib.hid rfl⟩
      obtain ⟨p0, Hp0⟩ : ∃ b, Hid (b = pk k) := ⟨_, Lib.hid rfl⟩
      obtain ⟨q0, Hq0⟩ : ∃ b, Hid (b = qk k) := ⟨_, Lib.hid rfl⟩
      have hkl : k < NM.length := by rw [← Hn.out]; exact hkn
      have tk : ∀ t : ByteArray, decide (bts t ∈ NM.take (k + 1)) = (decide (bts t ∈ NM.take k) || (s.toList == t.toList)) := fun t => by
        have e : NM.take (k + 1) = NM.take k ++ [NM[k]] := by rw [List.take_add_one, List.getElem?_eq_getElem hkl]; rfl
        have e2 : NM.getD k [] = NM[k] := by rw [List.getD_eq_getElem?_getD, List.getElem?_eq_getElem hkl]; rfl
        rw [Hs.out, eq_listL, e, e2, ← Bool.decide_or]
        congr 1
        rw [List.mem_append, List.mem_singleton, eq_comm (a := bts t)]
      have HPs : Hid (pk (k + 1) = (p0 || b)) := Lib.hid (by rw [Hp0.out, Hpk.out, Hpk.out, ← Hb.out]; exact tk pt)
      have HQs : Hid (qk (k + 1) = (q0 || ci)) := Lib.hid (by rw [Hq0.out, Hqk.out, Hqk.out, ← Hc.out]; exact tk it)
      have HNa : Hid (∀ w, Calls Tryz.prog 13 #[.string s] w fun e w' => e = .returned (.bool true) ∧ Below w.heap.size w w') := Lib.hid (fun w => by
        have hnm : Lex.nameB s.data.toList = true := by
          rw [Hs.out]
          refine HNn.out _ ?_
          rw [List.getD_eq_getElem?_getD, List.getElem?_eq_getElem hkl]
          exact List.getElem_mem hkl
        have hsz : s.size ≤ 9223372036854775807 := by
          have := nm_len (s := s) hnm
          have e : s.data.toList.length = s.size := rfl
          omega
        refine (name_wide s hsz w).mono ?_
        rintro e w' ⟨rfl, rfl⟩
        exact ⟨by rw [hnm], Below.refl _ _⟩)
      rw [← Hp0.out, ← Hq0.out]
      clear hkl tk
      go_wp2_with fail
      have HRs := Lib.hid (fun w hw => HCell.out k hkn w (below_step HR.out hw))
      rw [← Hs.out] at HRs
      have HRp := Lib.hid (fun w (hw : Below wr.heap.size wr w) => (HEv.out w (below_step HR.out hw)).1)
      cases p0 with
      | true =>
        apply wp_region_entE 97 [([], [])] ((fun _ _ w => Below wr.heap.size wr w)) (nm11eV ()) (fun _ _ _ _ _ _ _ _ h => h) (by kernel_rfl) (by kernel_rfl) rfl (fun _ _ _ => (Below.refl _ _).drew)
        · intro i o ho e w A' hT hei hwn hsee haway
          have hi : i < 11 := by have := (List.getElem?_eq_some_iff.1 ho).1; simpa using this
          have hi : i = 0 ∨ i = 1 ∨ i = 2 ∨ i = 3 ∨ i = 4 ∨ i = 5 ∨ i = 6 ∨ i = 7 ∨ i = 8 ∨ i = 9 ∨ i = 10 := by omega
          rcases hi with rfl | rfl | rfl | rfl | rfl | rfl | rfl | rfl | rfl | rfl | rfl
          all_goals
            simp only [List.getElem?_cons_succ, List.getElem?_cons_zero, Option.some.injEq] at ho
            subst ho
          · have q5 : A'.eval (.tmp 5) = .bool true := (haway 5 (by kernel_rfl)).trans rfl
            exact wp_of_runL (rMove _ _ _ _ _ A' w (.tmp 5) _ q5) ⟨_, rfl, rfl, LeavesE.plain (fun _ _ _ _ h hb => below_step h hb) (Below.refl _ _) (by decide)⟩
          · have q30 : A'.eval (.tmp 30) = .bool true := (hsee 30 0 (by kernel_rfl) (by kernel_rfl)).2 (want_free (by kernel_rfl))
            exact wp_of_runL (rMove _ _ _ _ _ A' w (.tmp 30) _ q30) ⟨_, rfl, rfl, LeavesE.plain (fun _ _ _ _ h hb => below_step h hb) (Below.refl _ _) (by decide)⟩
          · exact absurd (hT.pure 1 _ (hwn 1 false rfl) (want_free (by kernel_rfl))) (by intro h; cases h)
          · exact absurd (hT.pure 1 _ (hwn 1 false rfl) (want_free (by kernel_rfl))) (by intro h; cases h)
          · have q32 : A'.eval (.tmp 32) = .bool true := (hsee 32 2 (by kernel_rfl) (by kernel_rfl)).2 (hwn.same (by kernel_rfl))
            have q33 : A'.eval (.tmp 33) = .bool true := (hsee 33 3 (by kernel_rfl) (by kernel_rfl)).2 (hwn.same (by kernel_rfl))
            exact absurd (hT.pure 1 _ (hwn 1 false rfl) (want_free (by kernel_rfl))) (by intro h; cases h)
          · have q34 : A'.eval (.tmp 34) = .bool true := (hsee 34 4 (by kernel_rfl) (by kernel_rfl)).2 (hwn.same (by kernel_rfl))
            exact absurd (hT.pure 1 _ (hwn 1 false rfl) (want_free (by kernel_rfl))) (by intro h; cases h)
          · exact absurd (hT.pure 1 _ (hwn 1 false rfl) (want_free (by kernel_rfl))) (by intro h; cases h)
          · have q36 : A'.eval (.tmp 36) = .bool true := (hsee 36 6 (by kernel_rfl) (by kernel_rfl)).2 (hwn.same (by kernel_rfl))
            exact absurd (hT.pure 1 _ (hwn 1 false rfl) (want_free (by kernel_rfl))) (by intro h; cases h)
          · have q35 : A'.eval (.tmp 35) = .bool true := (hsee 35 5 (by kernel_rfl) (by kernel_rfl)).2 (hwn.same (by kernel_rfl))
            have q37 : A'.eval (.tmp 37) = .bool true := (hsee 37 7 (by kernel_rfl) (by kernel_rfl)).2 (hwn.same (by kernel_rfl))
            exact absurd (hT.pure 1 _ (hwn 1 false rfl) (want_free (by kernel_rfl))) (by intro h; cases h)
          · have q31 : A'.eval (.tmp 31) = .bool true := (hsee 31 1 (by kernel_rfl) (by kernel_rfl)).2 (want_free (by kernel_rfl))
            exact wp_of_runL (rPick _ _ _ _ _ A' w (.tmp 31) (.const (Value.bool true)) (.tmp 38) _ _ q31 (by rw [if_pos rfl]; exact rfl)) ⟨_, rfl, rfl, LeavesE.plain (fun _ _ _ _ h hb => below_step h hb) (Below.refl _ _) (by decide)⟩
          · have q39 : A'.eval (.tmp 39) = .bool true := (hsee 39 9 (by kernel_rfl) (by kernel_rfl)).2 (want_free (by kernel_rfl))
            exact wp_of_runL (rAssign _ _ _ _ _ A' w (.tmp 39) _ q39) ⟨_, rfl, rfl, LeavesE.plain (fun _ _ _ _ h hb => below_step h hb) (Below.refl _ _) (by decide)⟩
        intro e wz hT hall
        obtain ⟨v0, e0⟩ := hall 0 (by decide)
        obtain ⟨v1, e1⟩ := hall 1 (by decide)
        obtain ⟨v2, e2⟩ := hall 2 (by decide)
        obtain ⟨v3, e3⟩ := hall 3 (by decide)
        obtain ⟨v4, e4⟩ := hall 4 (by decide)
        obtain ⟨v5, e5⟩ := hall 5 (by decide)
        obtain ⟨v6, e6⟩ := hall 6 (by decide)
        obtain ⟨v7, e7⟩ := hall 7 (by decide)
        obtain ⟨v8, e8⟩ := hall 8 (by decide)
        obtain ⟨v9, e9⟩ := hall 9 (by decide)
        obtain ⟨v10, e10⟩ := hall 10 (by decide)
        have h10' : v10 = .bool true := hT.pure 10 _ e10 (want_free (by kernel_rfl))
        subst h10'
        have hF0 := hT.fact 0 rfl (by simp) (by simp) (by kernel_rfl)
        try simp only [nm11eV] at hF0
        simp only [List.length_cons, List.length_nil, Nat.reduceAdd, fillTo, e0, e1, e2, e3, e4, e5, e6, e7, e8, e9, e10, dstOf]
        clear e0 e1 e2 e3 e4 e5 e6 e7 e8 e9 e10 hT hall
        go_simp
        obtain ⟨w11, rfl⟩ : ∃ w, w = wz := ⟨wz, rfl⟩
        have HB11 := Lib.hid (below_step HR.out hF0)
        clear hF0 HRs HRp
        have HPn : Hid (Value.bool true = .bool (pk (k + 1))) := Lib.hid (by rw [HPs.out]; rfl)
        go_wp2_with fail
        have HRs := Lib.hid (fun w hw => HCell.out k hkn w (below_step HB11.out hw))
        rw [← Hs.out] at HRs
        have HRi := Lib.hid (fun w (hw : Below w11.heap.size w11 w) => (HEv.out w (below_step HB11.out hw)).2)
        cases q0 with
        | true =>
          apply wp_region_entE 97 [([], [])] ((fun _ _ w => Below w11.heap.size w11 w)) (nm12eV ()) (fun _ _ _ _ _ _ _ _ h => h) (by kernel_rfl) (by kernel_rfl) rfl (fun _ _ _ => (Below.refl _ _).drew)
          · intro i o ho e w A' hT hei hwn hsee haway
            have hi : i < 11 := by have := (List.getElem?_eq_some_iff.1 ho).1; simpa using this
            have hi : i = 0 ∨ i = 1 ∨ i = 2 ∨ i = 3 ∨ i = 4 ∨ i = 5 ∨ i = 6 ∨ i = 7 ∨ i = 8 ∨ i = 9 ∨ i = 10 := by omega
            rcases hi with rfl | rfl | rfl | rfl | rfl | rfl | rfl | rfl | rfl | rfl | rfl
            all_goals
              simp only [List.getElem?_cons_succ, List.getElem?_cons_zero, Option.some.injEq] at ho
              subst ho
            · have q6 : A'.eval (.tmp 6) = .bool true := (haway 6 (by kernel_rfl)).trans rfl
              exact wp_of_runL (rMove _ _ _ _ _ A' w (.tmp 6) _ q6) ⟨_, rfl, rfl, LeavesE.plain (fun _ _ _ _ h hb => below_step h hb) (Below.refl _ _) (by decide)⟩
            · have q40 : A'.eval (.tmp 40) = .bool true := (hsee 40 0 (by kernel_rfl) (by kernel_rfl)).2 (want_free (by kernel_rfl))
              exact wp_of_runL (rMove _ _ _ _ _ A' w (.tmp 40) _ q40) ⟨_, rfl, rfl, LeavesE.plain (fun _ _ _ _ h hb => below_step h hb) (Below.refl _ _) (by decide)⟩
            · exact absurd (hT.pure 1 _ (hwn 1 false rfl) (want_free (by kernel_rfl))) (by intro h; cases h)
            · exact absurd (hT.pure 1 _ (hwn 1 false rfl) (want_free (by kernel_rfl))) (by intro h; cases h)
            · have q42 : A'.eval (.tmp 42) = .bool true := (hsee 42 2 (by kernel_rfl) (by kernel_rfl)).2 (hwn.same (by kernel_rfl))
              have q43 : A'.eval (.tmp 43) = .bool true := (hsee 43 3 (by kernel_rfl) (by kernel_rfl)).2 (hwn.same (by kernel_rfl))
              exact absurd (hT.pure 1 _ (hwn 1 false rfl) (want_free (by kernel_rfl))) (by intro h; cases h)
            · have q44 : A'.eval (.tmp 44) = .bool true := (hsee 44 4 (by kernel_rfl) (by kernel_rfl)).2 (hwn.same (by kernel_rfl))
              exact absurd (hT.pure 1 _ (hwn 1 false rfl) (want_free (by kernel_rfl))) (by intro h; cases h)
            · exact absurd (hT.pure 1 _ (hwn 1 false rfl) (want_free (by kernel_rfl))) (by intro h; cases h)
            · have q46 : A'.eval (.tmp 46) = .bool true := (hsee 46 6 (by kernel_rfl) (by kernel_rfl)).2 (hwn.same (by kernel_rfl))
              exact absurd (hT.pure 1 _ (hwn 1 false rfl) (want_free (by kernel_rfl))) (by intro h; cases h)
            · have q45 : A'.eval (.tmp 45) = .bool true := (hsee 45 5 (by kernel_rfl) (by kernel_rfl)).2 (hwn.same (by kernel_rfl))
              have q47 : A'.eval (.tmp 47) = .bool true := (hsee 47 7 (by kernel_rfl) (by kernel_rfl)).2 (hwn.same (by kernel_rfl))
              exact absurd (hT.pure 1 _ (hwn 1 false rfl) (want_free (by kernel_rfl))) (by intro h; cases h)
            · have q41 : A'.eval (.tmp 41) = .bool true := (hsee 41 1 (by kernel_rfl) (by kernel_rfl)).2 (want_free (by kernel_rfl))
              exact wp_of_runL (rPick _ _ _ _ _ A' w (.tmp 41) (.const (Value.bool true)) (.tmp 48) _ _ q41 (by rw [if_pos rfl]; exact rfl)) ⟨_, rfl, rfl, LeavesE.plain (fun _ _ _ _ h hb => below_step h hb) (Below.refl _ _) (by decide)⟩
            · have q49 : A'.eval (.tmp 49) = .bool true := (hsee 49 9 (by kernel_rfl) (by kernel_rfl)).2 (want_free (by kernel_rfl))
              exact wp_of_runL (rAssign _ _ _ _ _ A' w (.tmp 49) _ q49) ⟨_, rfl, rfl, LeavesE.plain (fun _ _ _ _ h hb => below_step h hb) (Below.refl _ _) (by decide)⟩
          intro e wz hT hall
          obtain ⟨v0, e0⟩ := hall 0 (by decide)
          obtain ⟨v1, e1⟩ := hall 1 (by decide)
          obtain ⟨v2, e2⟩ := hall 2 (by decide)
          obtain ⟨v3, e3⟩ := hall 3 (by decide)
          obtain ⟨v4, e4⟩ := hall 4 (by decide)
          obtain ⟨v5, e5⟩ := hall 5 (by decide)
          obtain ⟨v6, e6⟩ := hall 6 (by decide)
          obtain ⟨v7, e7⟩ := hall 7 (by decide)
          obtain ⟨v8, e8⟩ := hall 8 (by decide)
          obtain ⟨v9, e9⟩ := hall 9 (by decide)
          obtain ⟨v10, e10⟩ := hall 10 (by decide)
          have h10' : v10 = .bool true := hT.pure 10 _ e10 (want_free (by kernel_rfl))
          subst h10'
          have hF0 := hT.fact 0 rfl (by simp) (by simp) (by kernel_rfl)
          try simp only [nm12eV] at hF0
          simp only [List.length_cons, List.length_nil, Nat.reduceAdd, fillTo, e0, e1, e2, e3, e4, e5, e6, e7, e8, e9, e10, dstOf]
          clear e0 e1 e2 e3 e4 e5 e6 e7 e8 e9 e10 hT hall
          go_simp
          obtain ⟨w12, rfl⟩ : ∃ w, w = wz := ⟨wz, rfl⟩
          have HB12 := Lib.hid (below_step HB11.out hF0)
          clear hF0 HRs
          have HRs := Lib.hid (fun w hw => HCell.out k hkn w (below_step HB12.out hw))
          rw [← Hs.out] at HRs
          have HQn : Hid (Value.bool true = .bool (qk (k + 1))) := Lib.hid (by rw [HQs.out]; rfl)
          go_wp2_with fail
          by_cases hk0 : k = 0
          case pos =>
            subst hk0
            apply wp_region_entE 97 [([], [])] ((fun _ _ w => Below w12.heap.size w12 w)) (nm13zV bn c n s) (fun _ _ _ _ _ _ _ _ h => h) (by kernel_rfl) (by kernel_rfl) rfl (fun _ _ _ => (Below.refl _ _).drew)
            · intro i o ho e w A' hT hei hwn hsee haway
              have q4 : A'.eval (.tmp 4) = .slice (some ⟨bn, 0, none⟩) n c := (haway 4 (by kernel_rfl)).trans rfl
              have q7 : A'.eval (.tmp 7) = .int .i64 0 := (haway 7 (by kernel_rfl)).trans rfl
              have hlow : Below w12.heap.size w12 w := hT.fact 0 rfl (by simp) (by simp) rfl
              have hi : i < 22 := by have := (List.getElem?_eq_some_iff.1 ho).1; simpa using this
              have hi : i = 0 ∨ i = 1 ∨ i = 2 ∨ i = 3 ∨ i = 4 ∨ i = 5 ∨ i = 6 ∨ i = 7 ∨ i = 8 ∨ i = 9 ∨ i = 10 ∨ i = 11 ∨ i = 12 ∨ i = 13 ∨ i = 14 ∨ i = 15 ∨ i = 16 ∨ i = 17 ∨ i = 18 ∨ i = 19 ∨ i = 20 ∨ i = 21 := by omega
              rcases hi with rfl | rfl | rfl | rfl | rfl | rfl | rfl | rfl | rfl | rfl | rfl | rfl | rfl | rfl | rfl | rfl | rfl | rfl | rfl | rfl | rfl | rfl
              all_goals
                simp only [List.getElem?_cons_succ, List.getElem?_cons_zero, Option.some.injEq] at ho
                subst ho
              · exact wp_of_runL (rMove _ _ _ _ _ A' w (.tmp 4) _ q4) ⟨_, rfl, rfl, LeavesE.plain (fun _ _ _ _ h hb => below_step h hb) (Below.refl _ _) (by decide)⟩
              · exact wp_of_runL (rMove _ _ _ _ _ A' w (.tmp 7) _ q7) ⟨_, rfl, rfl, LeavesE.plain (fun _ _ _ _ h hb => below_step h hb) (Below.refl _ _) (by decide)⟩
              · have q50 : A'.eval (.tmp 50) = .slice (some ⟨bn, 0, none⟩) n c := (hsee 50 0 (by kernel_rfl) (by kernel_rfl)).2 (want_free (by kernel_rfl))
                have q51 : A'.eval (.tmp 51) = .int .i64 0 := (hsee 51 1 (by kernel_rfl) (by kernel_rfl)).2 (want_free (by kernel_rfl))
                exact wp_of_runL (rIndex _ _ _ _ _ A' w 36 9 1 (.tmp 50) (.tmp 51) bn 0 n c 0 0 Tryz.underlying36 (by kernel_rfl) (by omega) (by omega) q50 q51) ⟨_, rfl, rfl, LeavesE.plain (fun _ _ _ _ h hb => below_step h hb) (Below.refl _ _) (by decide)⟩
              · have q52 : A'.eval (.tmp 52) = .pointer (some ⟨bn, 0 + 0 * 1, none⟩) := (hsee 52 2 (by kernel_rfl) (by kernel_rfl)).2 (want_free (by kernel_rfl))
                exact wp_of_runL (rLoad1 _ _ _ _ _ A' w 9 (.tmp 52) _ _ _ Tryz.underlying9 rfl (HRs.out w hlow) q52) ⟨_, rfl, rfl, LeavesE.plain (fun _ _ _ _ h hb => below_step h hb) (Below.refl _ _) (by decide)⟩
              · have q53 : A'.eval (.tmp 53) = .string s := (hsee 53 3 (by kernel_rfl) (by kernel_rfl)).2 (want_free (by kernel_rfl))
                refine wp_of_callL _ _ _ _ _ _ _ 13 _ [.tmp 53] [.string s] (by simp [q53]) (by kernel_rfl) ((HNa.out w).mono ?_)
                rintro e' w2 ⟨rfl, hb2⟩
                exact ⟨_, rfl, _, rfl, rfl, LeavesE.plain (fun _ _ _ _ h hb => below_step h hb) hb2 (by decide)⟩
              · have q54 : A'.eval (.tmp 54) = .bool true := (hsee 54 4 (by kernel_rfl) (by kernel_rfl)).2 (want_free (by kernel_rfl))
                exact wp_of_runL (rNot _ _ _ _ _ A' w _ (.tmp 54) _ q54) ⟨_, rfl, rfl, LeavesE.plain (fun _ _ _ _ h hb => below_step h hb) (Below.refl _ _) (by decide)⟩
              · have q55 : A'.eval (.tmp 55) = .bool false := (hsee 55 5 (by kernel_rfl) (by kernel_rfl)).2 (want_free (by kernel_rfl))
                exact wp_of_runL (rMove _ _ _ _ _ A' w (.tmp 55) _ q55) ⟨_, rfl, rfl, LeavesE.plain (fun _ _ _ _ h hb => below_step h hb) (Below.refl _ _) (by decide)⟩
              · exact wp_of_runL (rMove _ _ _ _ _ A' w (.tmp 7) _ q7) ⟨_, rfl, rfl, LeavesE.plain (fun _ _ _ _ h hb => below_step h hb) (Below.refl _ _) (by decide)⟩
              · have q57 : A'.eval (.tmp 57) = .int .i64 0 := (hsee 57 7 (by kernel_rfl) (by kernel_rfl)).2 (hwn.same (by kernel_rfl))
                exact wp_of_runL (rGtrInt _ _ _ _ _ A' w _ _ (.tmp 57) _ 0 0 q57 rfl) ⟨_, rfl, rfl, LeavesE.plain (fun _ _ _ _ h hb => below_step h hb) (Below.refl _ _) (by decide)⟩
              · have q58 : A'.eval (.tmp 58) = .bool false := (hsee 58 8 (by kernel_rfl) (by kernel_rfl)).2 (hwn.same (by kernel_rfl))
                exact wp_of_runL (rMove _ _ _ _ _ A' w (.tmp 58) _ q58) ⟨_, rfl, rfl, LeavesE.plain (fun _ _ _ _ h hb => below_step h hb) (Below.refl _ _) (by decide)⟩
              · have e9 := hwn 9 true rfl
                obtain ⟨u, e6⟩ := Option.ne_none_iff_exists'.1 (hT.order 9 6 (by rw [e9]; simp) (by kernel_rfl))
                have hu : u = .bool false := hT.pure 6 _ e6 (want_free (by kernel_rfl))
                exact absurd (hT.pure 9 _ e9 (fun g b hg => by cases hg; rw [e6, hu])) (by intro h; cases h)
              · have e9 := hwn 9 true rfl
                obtain ⟨u, e6⟩ := Option.ne_none_iff_exists'.1 (hT.order 9 6 (by rw [e9]; simp) (by kernel_rfl))
                have hu : u = .bool false := hT.pure 6 _ e6 (want_free (by kernel_rfl))
                exact absurd (hT.pure 9 _ e9 (fun g b hg => by cases hg; rw [e6, hu])) (by intro h; cases h)
              · have e9 := hwn 9 true rfl
                obtain ⟨u, e6⟩ := Option.ne_none_iff_exists'.1 (hT.order 9 6 (by rw [e9]; simp) (by kernel_rfl))
                have hu : u = .bool false := hT.pure 6 _ e6 (want_free (by kernel_rfl))
                exact absurd (hT.pure 9 _ e9 (fun g b hg => by cases hg; rw [e6, hu])) (by intro h; cases h)
              · have e9 := hwn 9 true rfl
                obtain ⟨u, e6⟩ := Option.ne_none_iff_exists'.1 (hT.order 9 6 (by rw [e9]; simp) (by kernel_rfl))
                have hu : u = .bool false := hT.pure 6 _ e6 (want_free (by kernel_rfl))
                exact absurd (hT.pure 9 _ e9 (fun g b hg => by cases hg; rw [e6, hu])) (by intro h; cases h)
              · have e9 := hwn 9 true rfl
                obtain ⟨u, e6⟩ := Option.ne_none_iff_exists'.1 (hT.order 9 6 (by rw [e9]; simp) (by kernel_rfl))
                have hu : u = .bool false := hT.pure 6 _ e6 (want_free (by kernel_rfl))
                exact absurd (hT.pure 9 _ e9 (fun g b hg => by cases hg; rw [e6, hu])) (by intro h; cases h)
              · have e9 := hwn 9 true rfl
                obtain ⟨u, e6⟩ := Option.ne_none_iff_exists'.1 (hT.order 9 6 (by rw [e9]; simp) (by kernel_rfl))
                have hu : u = .bool false := hT.pure 6 _ e6 (want_free (by kernel_rfl))
                exact absurd (hT.pure 9 _ e9 (fun g b hg => by cases hg; rw [e6, hu])) (by intro h; cases h)
              · have e9 := hwn 9 true rfl
                obtain ⟨u, e6⟩ := Option.ne_none_iff_exists'.1 (hT.order 9 6 (by rw [e9]; simp) (by kernel_rfl))
                have hu : u = .bool false := hT.pure 6 _ e6 (want_free (by kernel_rfl))
                exact absurd (hT.pure 9 _ e9 (fun g b hg => by cases hg; rw [e6, hu])) (by intro h; cases h)
              · have e9 := hwn 9 true rfl
                obtain ⟨u, e6⟩ := Option.ne_none_iff_exists'.1 (hT.order 9 6 (by rw [e9]; simp) (by kernel_rfl))
                have hu : u = .bool false := hT.pure 6 _ e6 (want_free (by kernel_rfl))
                exact absurd (hT.pure 9 _ e9 (fun g b hg => by cases hg; rw [e6, hu])) (by intro h; cases h)
              · have e9 := hwn 9 true rfl
                obtain ⟨u, e6⟩ := Option.ne_none_iff_exists'.1 (hT.order 9 6 (by rw [e9]; simp) (by kernel_rfl))
                have hu : u = .bool false := hT.pure 6 _ e6 (want_free (by kernel_rfl))
                exact absurd (hT.pure 9 _ e9 (fun g b hg => by cases hg; rw [e6, hu])) (by intro h; cases h)
              · have e9 := hwn 9 true rfl
                obtain ⟨u, e6⟩ := Option.ne_none_iff_exists'.1 (hT.order 9 6 (by rw [e9]; simp) (by kernel_rfl))
                have hu : u = .bool false := hT.pure 6 _ e6 (want_free (by kernel_rfl))
                exact absurd (hT.pure 9 _ e9 (fun g b hg => by cases hg; rw [e6, hu])) (by intro h; cases h)
              · have q59 : A'.eval (.tmp 59) = .bool false := (hsee 59 9 (by kernel_rfl) (by kernel_rfl)).2 (hwn.same (by kernel_rfl))
                exact wp_of_runL (rPick _ _ _ _ _ A' w (.tmp 59) (.tmp 69) (.const (Value.bool false)) _ _ q59 (by rw [if_neg (by decide)]; exact rfl)) ⟨_, rfl, rfl, LeavesE.plain (fun _ _ _ _ h hb => below_step h hb) (Below.refl _ _) (by decide)⟩
              · have q56 : A'.eval (.tmp 56) = .bool false := (hsee 56 6 (by kernel_rfl) (by kernel_rfl)).2 (want_free (by kernel_rfl))
                have e6 : e 6 = some (.bool false) := by rw [(hsee 56 6 (by kernel_rfl) (by kernel_rfl)).1, q56]
                have q70 : A'.eval (.tmp 70) = .bool false := (hsee 70 20 (by kernel_rfl) (by kernel_rfl)).2 (fun g b hg => by cases hg; exact e6)
                exact wp_of_runL (rPick _ _ _ _ _ A' w (.tmp 56) (.const (Value.bool true)) (.tmp 70) _ _ q56 (by rw [if_neg (by decide)]; exact q70)) ⟨_, rfl, rfl, LeavesE.plain (fun _ _ _ _ h hb => below_step h hb) (Below.refl _ _) (by decide)⟩
            intro e wz hT hall
            obtain ⟨v0, e0⟩ := hall 0 (by decide)
            obtain ⟨v1, e1⟩ := hall 1 (by decide)
            obtain ⟨v2, e2⟩ := hall 2 (by decide)
            obtain ⟨v3, e3⟩ := hall 3 (by decide)
            obtain ⟨v4, e4⟩ := hall 4 (by decide)
            obtain ⟨v5, e5⟩ := hall 5 (by decide)
            obtain ⟨v6, e6⟩ := hall 6 (by decide)
            obtain ⟨v7, e7⟩ := hall 7 (by decide)
            obtain ⟨v8, e8⟩ := hall 8 (by decide)
            obtain ⟨v9, e9⟩ := hall 9 (by decide)
            obtain ⟨v10, e10⟩ := hall 10 (by decide)
            obtain ⟨v11, e11⟩ := hall 11 (by decide)
            obtain ⟨v12, e12⟩ := hall 12 (by decide)
            obtain ⟨v13, e13⟩ := hall 13 (by decide)
            obtain ⟨v14, e14⟩ := hall 14 (by decide)
            obtain ⟨v15, e15⟩ := hall 15 (by decide)
            obtain ⟨v16, e16⟩ := hall 16 (by decide)
            obtain ⟨v17, e17⟩ := hall 17 (by decide)
            obtain ⟨v18, e18⟩ := hall 18 (by decide)
            obtain ⟨v19, e19⟩ := hall 19 (by decide)
            obtain ⟨v20, e20⟩ := hall 20 (by decide)
            obtain ⟨v21, e21⟩ := hall 21 (by decide)
            have h21' : v21 = .bool false := hT.pure 21 _ e21 (want_free (by kernel_rfl))
            subst h21'
            have hF0 := hT.fact 0 rfl (by simp) (by simp) (by kernel_rfl)
            try simp only [nm13zV] at hF0
            simp only [List.length_cons, List.length_nil, Nat.reduceAdd, fillTo, e0, e1, e2, e3, e4, e5, e6, e7, e8, e9, e10, e11, e12, e13, e14, e15, e16, e17, e18, e19, e20, e21, dstOf]
            clear e0 e1 e2 e3 e4 e5 e6 e7 e8 e9 e10 e11 e12 e13 e14 e15 e16 e17 e18 e19 e20 e21 hT hall
            go_simp
            obtain ⟨w13, rfl⟩ : ∃ w, w = wz := ⟨wz, rfl⟩
            have HB13 := Lib.hid (below_step HB12.out hF0)
            clear hF0
            go_wp2_with fail
            go_roundw
            case rel => exact ⟨1, by omega, by go_num, HPn.out, HQn.out, HB13⟩
            case measure => simp [intOf]; omega
          case neg =>
            obtain ⟨jj, Hj⟩ : ∃ jj, Hid (k = jj + 1) := ⟨k - 1, Lib.hid (by omega)⟩
            have hwj : IntKind.i64.wrap ((k : Int) - 1) = (jj : Int) := by rw [IntKind.wrap_i64]; have := Hj.out; omega
            have hjn : jj < n := by have := Hj.out; omega
            have Hk0 : Hid (decide ((0 : Int) < k) = true) := Lib.hid (decide_eq_true (by omega))
            obtain ⟨p, Hp⟩ : ∃ p : ByteArray, Hid (p = ⟨(NM.getD jj []).toArray⟩) := ⟨_, Lib.hid rfl⟩
            have HRj := Lib.hid (fun w hw => HCell.out jj hjn w (below_step HB12.out hw))
            rw [← Hp.out] at HRj
            have Hlt : Hid ((!Op.bytesLess p.toList s.toList) = false) := Lib.hid (by
              rw [Hp.out, Hs.out, ByteArray.toList_eq, ByteArray.toList_eq]
              have := HLess.out jj (by have := Hj.out; omega)
              rw [← Hj.out] at this
              show (!Op.bytesLess (NM.getD jj []) (NM.getD k [])) = false
              rw [this]; rfl)
            apply wp_region_monoG 97 (nm13 bn c n k jj s p) nm13_below (by kernel_rfl) (by kernel_rfl) rfl
            · intro i o g b ho hgd u w hu
              have hi : i < 22 := by have := (List.getElem?_eq_some_iff.1 ho).1; simpa using this
              have hi : i = 0 ∨ i = 1 ∨ i = 2 ∨ i = 3 ∨ i = 4 ∨ i = 5 ∨ i = 6 ∨ i = 7 ∨ i = 8 ∨ i = 9 ∨ i = 10 ∨ i = 11 ∨ i = 12 ∨ i = 13 ∨ i = 14 ∨ i = 15 ∨ i = 16 ∨ i = 17 ∨ i = 18 ∨ i = 19 ∨ i = 20 ∨ i = 21 := by omega
              rcases hi with rfl | rfl | rfl | rfl | rfl | rfl | rfl | rfl | rfl | rfl | rfl | rfl | rfl | rfl | rfl | rfl | rfl | rfl | rfl | rfl | rfl | rfl
              all_goals
                simp only [List.getElem?_cons_succ, List.getElem?_cons_zero, Option.some.injEq] at ho
                subst ho
                cases hgd
                all_goals exact hu
            · intro i o ho w A' hlow hsee haway
              have q4 : A'.eval (.tmp 4) = .slice (some ⟨bn, 0, none⟩) n c := (haway 4 (by kernel_rfl)).trans rfl
              have q7 : A'.eval (.tmp 7) = .int .i64 k := (haway 7 (by kernel_rfl)).trans rfl
              have hi : i < 22 := by have := (List.getElem?_eq_some_iff.1 ho).1; simpa using this
              have hi : i = 0 ∨ i = 1 ∨ i = 2 ∨ i = 3 ∨ i = 4 ∨ i = 5 ∨ i = 6 ∨ i = 7 ∨ i = 8 ∨ i = 9 ∨ i = 10 ∨ i = 11 ∨ i = 12 ∨ i = 13 ∨ i = 14 ∨ i = 15 ∨ i = 16 ∨ i = 17 ∨ i = 18 ∨ i = 19 ∨ i = 20 ∨ i = 21 := by omega
              rcases hi with rfl | rfl | rfl | rfl | rfl | rfl | rfl | rfl | rfl | rfl | rfl | rfl | rfl | rfl | rfl | rfl | rfl | rfl | rfl | rfl | rfl | rfl
              all_goals
                simp only [List.getElem?_cons_succ, List.getElem?_cons_zero, Option.some.injEq] at ho
                subst ho
              · exact wp_of_runL (rMove _ _ _ _ _ A' w (.tmp 4) _ q4) ⟨_, rfl, Below.refl _ _, rfl⟩
              · exact wp_of_runL (rMove _ _ _ _ _ A' w (.tmp 7) _ q7) ⟨_, rfl, Below.refl _ _, rfl⟩
              · have q50 : A'.eval (.tmp 50) = .slice (some ⟨bn, 0, none⟩) n c := hsee 50 0 (by kernel_rfl) (by kernel_rfl)
                have q51 : A'.eval (.tmp 51) = .int .i64 k := hsee 51 1 (by kernel_rfl) (by kernel_rfl)
                exact wp_of_runL (rIndex _ _ _ _ _ A' w 36 9 1 (.tmp 50) (.tmp 51) bn 0 n c k k Tryz.underlying36 (by kernel_rfl) (by omega) (by omega) q50 q51) ⟨_, rfl, Below.refl _ _, rfl⟩
              · have q52 : A'.eval (.tmp 52) = .pointer (some ⟨bn, 0 + k * 1, none⟩) := hsee 52 2 (by kernel_rfl) (by kernel_rfl)
                exact wp_of_runL (rLoad1 _ _ _ _ _ A' w 9 (.tmp 52) _ _ _ Tryz.underlying9 rfl (HRs.out w hlow) q52) ⟨_, rfl, Below.refl _ _, rfl⟩
              · have q53 : A'.eval (.tmp 53) = .string s := hsee 53 3 (by kernel_rfl) (by kernel_rfl)
                refine wp_of_callL _ _ _ _ _ _ _ 13 _ [.tmp 53] [.string s] (by simp [q53]) (by kernel_rfl) ((HNa.out w).mono ?_)
                rintro e w2 ⟨rfl, hb2⟩
                exact ⟨_, rfl, _, rfl, hb2, rfl⟩
              · have q54 : A'.eval (.tmp 54) = .bool true := hsee 54 4 (by kernel_rfl) (by kernel_rfl)
                exact wp_of_runL (rNot _ _ _ _ _ A' w _ (.tmp 54) _ q54) ⟨_, rfl, Below.refl _ _, rfl⟩
              · have q55 : A'.eval (.tmp 55) = .bool false := hsee 55 5 (by kernel_rfl) (by kernel_rfl)
                exact wp_of_runL (rMove _ _ _ _ _ A' w (.tmp 55) _ q55) ⟨_, rfl, Below.refl _ _, rfl⟩
              · exact wp_of_runL (rMove _ _ _ _ _ A' w (.tmp 7) _ q7) ⟨_, rfl, Below.refl _ _, rfl⟩
              · have q57 : A'.eval (.tmp 57) = .int .i64 k := hsee 57 7 (by kernel_rfl) (by kernel_rfl)
                exact wp_of_runL ((rGtrInt _ _ _ _ _ A' w _ _ (.tmp 57) _ k 0 q57 rfl).trans (by rw [Hk0.out])) ⟨_, rfl, Below.refl _ _, rfl⟩
              · have q58 : A'.eval (.tmp 58) = .bool true := hsee 58 8 (by kernel_rfl) (by kernel_rfl)
                exact wp_of_runL (rMove _ _ _ _ _ A' w (.tmp 58) _ q58) ⟨_, rfl, Below.refl _ _, rfl⟩
              · exact wp_of_runL (rMove _ _ _ _ _ A' w (.tmp 4) _ q4) ⟨_, rfl, Below.refl _ _, rfl⟩
              · exact wp_of_runL (rMove _ _ _ _ _ A' w (.tmp 7) _ q7) ⟨_, rfl, Below.refl _ _, rfl⟩
              · have q61 : A'.eval (.tmp 61) = .int .i64 k := hsee 61 11 (by kernel_rfl) (by kernel_rfl)
                exact wp_of_runL (rSubInt _ _ _ _ _ A' w _ _ (.tmp 61) _ k 1 jj q61 rfl hwj) ⟨_, rfl, Below.refl _ _, rfl⟩
              · have q60 : A'.eval (.tmp 60) = .slice (some ⟨bn, 0, none⟩) n c := hsee 60 10 (by kernel_rfl) (by kernel_rfl)
                have q62 : A'.eval (.tmp 62) = .int .i64 jj := hsee 62 12 (by kernel_rfl) (by kernel_rfl)
                exact wp_of_runL (rIndex _ _ _ _ _ A' w 36 9 1 (.tmp 60) (.tmp 62) bn 0 n c jj jj Tryz.underlying36 (by kernel_rfl) (by omega) (by omega) q60 q62) ⟨_, rfl, Below.refl _ _, rfl⟩
              · have q63 : A'.eval (.tmp 63) = .pointer (some ⟨bn, 0 + jj * 1, none⟩) := hsee 63 13 (by kernel_rfl) (by kernel_rfl)
                exact wp_of_runL (rLoad1 _ _ _ _ _ A' w 9 (.tmp 63) _ _ _ Tryz.underlying9 rfl (HRj.out w hlow) q63) ⟨_, rfl, Below.refl _ _, rfl⟩
              · exact wp_of_runL (rMove _ _ _ _ _ A' w (.tmp 4) _ q4) ⟨_, rfl, Below.refl _ _, rfl⟩
              · exact wp_of_runL (rMove _ _ _ _ _ A' w (.tmp 7) _ q7) ⟨_, rfl, Below.refl _ _, rfl⟩
              · have q65 : A'.eval (.tmp 65) = .slice (some ⟨bn, 0, none⟩) n c := hsee 65 15 (by kernel_rfl) (by kernel_rfl)
                have q66 : A'.eval (.tmp 66) = .int .i64 k := hsee 66 16 (by kernel_rfl) (by kernel_rfl)
                exact wp_of_runL (rIndex _ _ _ _ _ A' w 36 9 1 (.tmp 65) (.tmp 66) bn 0 n c k k Tryz.underlying36 (by kernel_rfl) (by omega) (by omega) q65 q66) ⟨_, rfl, Below.refl _ _, rfl⟩
              · have q67 : A'.eval (.tmp 67) = .pointer (some ⟨bn, 0 + k * 1, none⟩) := hsee 67 17 (by kernel_rfl) (by kernel_rfl)
                exact wp_of_runL (rLoad1 _ _ _ _ _ A' w 9 (.tmp 67) _ _ _ Tryz.underlying9 rfl (HRs.out w hlow) q67) ⟨_, rfl, Below.refl _ _, rfl⟩
              · have q64 : A'.eval (.tmp 64) = .string p := hsee 64 14 (by kernel_rfl) (by kernel_rfl)
                have q68 : A'.eval (.tmp 68) = .string s := hsee 68 18 (by kernel_rfl) (by kernel_rfl)
                exact wp_of_runL ((rGeqStr _ _ _ _ _ A' w _ _ (.tmp 64) (.tmp 68) p s q64 q68).trans (by rw [Hlt.out])) ⟨_, rfl, Below.refl _ _, rfl⟩
              · have q59 : A'.eval (.tmp 59) = .bool true := hsee 59 9 (by kernel_rfl) (by kernel_rfl)
                have q69 : A'.eval (.tmp 69) = .bool false := hsee 69 19 (by kernel_rfl) (by kernel_rfl)
                exact wp_of_runL (rPick _ _ _ _ _ A' w (.tmp 59) (.tmp 69) (.const (Value.bool false)) _ _ q59 (by rw [if_pos rfl]; exact q69)) ⟨_, rfl, Below.refl _ _, rfl⟩
              · have q56 : A'.eval (.tmp 56) = .bool false := hsee 56 6 (by kernel_rfl) (by kernel_rfl)
                have q70 : A'.eval (.tmp 70) = .bool false := hsee 70 20 (by kernel_rfl) (by kernel_rfl)
                exact wp_of_runL (rPick _ _ _ _ _ A' w (.tmp 56) (.const (Value.bool true)) (.tmp 70) _ _ q56 (by rw [if_neg (by decide)]; exact q70)) ⟨_, rfl, Below.refl _ _, rfl⟩
            intro e wz hlow hall
            obtain ⟨v0, e0, -⟩ := hall 0 (by decide)
            obtain ⟨v1, e1, -⟩ := hall 1 (by decide)
            obtain ⟨v2, e2, -⟩ := hall 2 (by decide)
            obtain ⟨v3, e3, -⟩ := hall 3 (by decide)
            obtain ⟨v4, e4, -⟩ := hall 4 (by decide)
            obtain ⟨v5, e5, -⟩ := hall 5 (by decide)
            obtain ⟨v6, e6, -⟩ := hall 6 (by decide)
            obtain ⟨v7, e7, -⟩ := hall 7 (by decide)
            obtain ⟨v8, e8, -⟩ := hall 8 (by decide)
            obtain ⟨v9, e9, -⟩ := hall 9 (by decide)
            obtain ⟨v10, e10, -⟩ := hall 10 (by decide)
            obtain ⟨v11, e11, -⟩ := hall 11 (by decide)
            obtain ⟨v12, e12, -⟩ := hall 12 (by decide)
            obtain ⟨v13, e13, -⟩ := hall 13 (by decide)
            obtain ⟨v14, e14, -⟩ := hall 14 (by decide)
            obtain ⟨v15, e15, -⟩ := hall 15 (by decide)
            obtain ⟨v16, e16, -⟩ := hall 16 (by decide)
            obtain ⟨v17, e17, -⟩ := hall 17 (by decide)
            obtain ⟨v18, e18, -⟩ := hall 18 (by decide)
            obtain ⟨v19, e19, -⟩ := hall 19 (by decide)
            obtain ⟨v20, e20, -⟩ := hall 20 (by decide)
            obtain ⟨v21, e21, h21⟩ := hall 21 (by decide)
            have h21' : v21 = .bool false := h21
            subst h21'
            clear h21
            have HLow := Lib.hid hlow
            simp only [List.length_cons, List.length_nil, Nat.reduceAdd, fillTo, e0, e1, e2, e3, e4, e5, e6, e7, e8, e9, e10, e11, e12, e13, e14, e15, e16, e17, e18, e19, e20, e21, dstOf]
            clear e0 e1 e2 e3 e4 e5 e6 e7 e8 e9 e10 e11 e12 e13 e14 e15 e16 e17 e18 e19 e20 e21 hlow hall
            go_simp
            obtain ⟨w13, rfl⟩ : ∃ w, w = wz := ⟨wz, rfl⟩
            have HB13 := Lib.hid (below_step HB12.out HLow.out)
            go_wp2_with fail
            go_roundw
            case rel => exact ⟨k + 1, by omega, by go_num, HPn.out, HQn.out, HB13⟩
            case measure => simp [intOf]; omega
        | false =>
          apply wp_region_monoG 97 (nm12 bn c n k N0 s it ci) nm12_below (by kernel_rfl) (by kernel_rfl) rfl
          · intro i o g b ho hgd u w hu
            have hi : i < 11 := by have := (List.getElem?_eq_some_iff.1 ho).1; simpa using this
            have hi : i = 0 ∨ i = 1 ∨ i = 2 ∨ i = 3 ∨ i = 4 ∨ i = 5 ∨ i = 6 ∨ i = 7 ∨ i = 8 ∨ i = 9 ∨ i = 10 := by omega
            rcases hi with rfl | rfl | rfl | rfl | rfl | rfl | rfl | rfl | rfl | rfl | rfl
            all_goals
              simp only [List.getElem?_cons_succ, List.getElem?_cons_zero, Option.some.injEq] at ho
              subst ho
              cases hgd
              all_goals exact hu
          · intro i o ho w A' hlow hsee haway
            have q1 : A'.eval (.tmp 1) = .pointer (some ⟨N0, 0, none⟩) := (haway 1 (by kernel_rfl)).trans rfl
            have q4 : A'.eval (.tmp 4) = .slice (some ⟨bn, 0, none⟩) n c := (haway 4 (by kernel_rfl)).trans rfl
            have q7 : A'.eval (.tmp 7) = .int .i64 k := (haway 7 (by kernel_rfl)).trans rfl
            have hi : i < 11 := by have := (List.getElem?_eq_some_iff.1 ho).1; simpa using this
            have hi : i = 0 ∨ i = 1 ∨ i = 2 ∨ i = 3 ∨ i = 4 ∨ i = 5 ∨ i = 6 ∨ i = 7 ∨ i = 8 ∨ i = 9 ∨ i = 10 := by omega
            rcases hi with rfl | rfl | rfl | rfl | rfl | rfl | rfl | rfl | rfl | rfl | rfl
            all_goals
              simp only [List.getElem?_cons_succ, List.getElem?_cons_zero, Option.some.injEq] at ho
              subst ho
            · have q6 : A'.eval (.tmp 6) = .bool false := (haway 6 (by kernel_rfl)).trans rfl
              exact wp_of_runL (rMove _ _ _ _ _ A' w (.tmp 6) _ q6) ⟨_, rfl, Below.refl _ _, rfl⟩
            · have q40 : A'.eval (.tmp 40) = .bool false := hsee 40 0 (by kernel_rfl) (by kernel_rfl)
              exact wp_of_runL (rMove _ _ _ _ _ A' w (.tmp 40) _ q40) ⟨_, rfl, Below.refl _ _, rfl⟩
            · exact wp_of_runL (rMove _ _ _ _ _ A' w (.tmp 4) _ q4) ⟨_, rfl, Below.refl _ _, rfl⟩
            · exact wp_of_runL (rMove _ _ _ _ _ A' w (.tmp 7) _ q7) ⟨_, rfl, Below.refl _ _, rfl⟩
            · have q42 : A'.eval (.tmp 42) = .slice (some ⟨bn, 0, none⟩) n c := hsee 42 2 (by kernel_rfl) (by kernel_rfl)
              have q43 : A'.eval (.tmp 43) = .int .i64 k := hsee 43 3 (by kernel_rfl) (by kernel_rfl)
              exact wp_of_runL (rIndex _ _ _ _ _ A' w 36 9 1 (.tmp 42) (.tmp 43) bn 0 n c k k Tryz.underlying36 (by kernel_rfl) (by omega) (by omega) q42 q43) ⟨_, rfl, Below.refl _ _, rfl⟩
            · have q44 : A'.eval (.tmp 44) = .pointer (some ⟨bn, 0 + k * 1, none⟩) := hsee 44 4 (by kernel_rfl) (by kernel_rfl)
              exact wp_of_runL (rLoad1 _ _ _ _ _ A' w 9 (.tmp 44) _ _ _ Tryz.underlying9 rfl (HRs.out w hlow) q44) ⟨_, rfl, Below.refl _ _, rfl⟩
            · exact wp_of_runL (rField _ _ _ _ _ A' w 27 (.tmp 1) 4 N0 0 4 _ _ Tryz.underlying27 rfl (by kernel_rfl) rfl (by kernel_rfl) q1) ⟨_, rfl, Below.refl _ _, rfl⟩
            · have q46 : A'.eval (.tmp 46) = .pointer (some ⟨N0, 4, none⟩) := hsee 46 6 (by kernel_rfl) (by kernel_rfl)
              exact wp_of_runL (rLoad1 _ _ _ _ _ A' w 9 (.tmp 46) _ _ _ Tryz.underlying9 rfl (HRi.out w hlow) q46) ⟨_, rfl, Below.refl _ _, rfl⟩
            · have q45 : A'.eval (.tmp 45) = .string s := hsee 45 5 (by kernel_rfl) (by kernel_rfl)
              have q47 : A'.eval (.tmp 47) = .string it := hsee 47 7 (by kernel_rfl) (by kernel_rfl)
              exact wp_of_runL ((rEqlStr _ _ _ _ _ A' w _ _ (.tmp 45) (.tmp 47) s it q45 q47).trans (by rw [Hc.out])) ⟨_, rfl, Below.refl _ _, rfl⟩
            · have q41 : A'.eval (.tmp 41) = .bool false := hsee 41 1 (by kernel_rfl) (by kernel_rfl)
              have q48 : A'.eval (.tmp 48) = .bool ci := hsee 48 8 (by kernel_rfl) (by kernel_rfl)
              exact wp_of_runL (rPick _ _ _ _ _ A' w (.tmp 41) (.const (Value.bool true)) (.tmp 48) _ _ q41 (by rw [if_neg (by decide)]; exact q48)) ⟨_, rfl, Below.refl _ _, rfl⟩
            · have q49 : A'.eval (.tmp 49) = .bool ci := hsee 49 9 (by kernel_rfl) (by kernel_rfl)
              exact wp_of_runL (rAssign _ _ _ _ _ A' w (.tmp 49) _ q49) ⟨_, rfl, Below.refl _ _, rfl⟩
          intro e wz hlow hall
          obtain ⟨v0, e0, -⟩ := hall 0 (by decide)
          obtain ⟨v1, e1, -⟩ := hall 1 (by decide)
          obtain ⟨v2, e2, -⟩ := hall 2 (by decide)
          obtain ⟨v3, e3, -⟩ := hall 3 (by decide)
          obtain ⟨v4, e4, -⟩ := hall 4 (by decide)
          obtain ⟨v5, e5, -⟩ := hall 5 (by decide)
          obtain ⟨v6, e6, -⟩ := hall 6 (by decide)
          obtain ⟨v7, e7, -⟩ := hall 7 (by decide)
          obtain ⟨v8, e8, -⟩ := hall 8 (by decide)
          obtain ⟨v9, e9, -⟩ := hall 9 (by decide)
          obtain ⟨v10, e10, h10⟩ := hall 10 (by decide)
          have h10' : v10 = .bool ci := h10
          subst h10'
          clear h10
          have HLow := Lib.hid hlow
          simp only [List.length_cons, List.length_nil, Nat.reduceAdd, fillTo, e0, e1, e2, e3, e4, e5, e6, e7, e8, e9, e10, dstOf]
          clear e0 e1 e2 e3 e4 e5 e6 e7 e8 e9 e10 hlow hall
          go_simp
          obtain ⟨w12, rfl⟩ : ∃ w, w = wz := ⟨wz, rfl⟩
          have HB12 := Lib.hid (below_step HB11.out HLow.out)
          clear HLow HRs
          have HRs := Lib.hid (fun w hw => HCell.out k hkn w (below_step HB12.out hw))
          rw [← Hs.out] at HRs
          have HQn : Hid (Value.bool ci = .bool (qk (k + 1))) := Lib.hid (by rw [HQs.out]; rfl)
          go_wp2_with fail
          by_cases hk0 : k = 0
          case pos =>
            subst hk0
            apply wp_region_entE 97 [([], [])] ((fun _ _ w => Below w12.heap.size w12 w)) (nm13zV bn c n s) (fun _ _ _ _ _ _ _ _ h => h) (by kernel_rfl) (by kernel_rfl) rfl (fun _ _ _ => (Below.refl _ _).drew)
            · intro i o ho e w A' hT hei hwn hsee haway
              have q4 : A'.eval (.tmp 4) = .slice (some ⟨bn, 0, none⟩) n c := (haway 4 (by kernel_rfl)).trans rfl
              have q7 : A'.eval (.tmp 7) = .int .i64 0 := (haway 7 (by kernel_rfl)).trans rfl
              have hlow : Below w12.heap.size w12 w := hT.fact 0 rfl (by simp) (by simp) rfl
              have hi : i < 22 := by have := (List.getElem?_eq_some_iff.1 ho).1; simpa using this
              have hi : i = 0 ∨ i = 1 ∨ i = 2 ∨ i = 3 ∨ i = 4 ∨ i = 5 ∨ i = 6 ∨ i = 7 ∨ i = 8 ∨ i = 9 ∨ i = 10 ∨ i = 11 ∨ i = 12 ∨ i = 13 ∨ i = 14 ∨ i = 15 ∨ i = 16 ∨ i = 17 ∨ i = 18 ∨ i = 19 ∨ i = 20 ∨ i = 21 := by omega
              rcases hi with rfl | rfl | rfl | rfl | rfl | rfl | rfl | rfl | rfl | rfl | rfl | rfl | rfl | rfl | rfl | rfl | rfl | rfl | rfl | rfl | rfl | rfl
              all_goals
                simp only [List.getElem?_cons_succ, List.getElem?_cons_zero, Option.some.injEq] at ho
                subst ho
              · exact wp_of_runL (rMove _ _ _ _ _ A' w (.tmp 4) _ q4) ⟨_, rfl, rfl, LeavesE.plain (fun _ _ _ _ h hb => below_step h hb) (Below.refl _ _) (by decide)⟩
              · exact wp_of_runL (rMove _ _ _ _ _ A' w (.tmp 7) _ q7) ⟨_, rfl, rfl, LeavesE.plain (fun _ _ _ _ h hb => below_step h hb) (Below.refl _ _) (by decide)⟩
              · have q50 : A'.eval (.tmp 50) = .slice (some ⟨bn, 0, none⟩) n c := (hsee 50 0 (by kernel_rfl) (by kernel_rfl)).2 (want_free (by kernel_rfl))
                have q51 : A'.eval (.tmp 51) = .int .i64 0 := (hsee 51 1 (by kernel_rfl) (by kernel_rfl)).2 (want_free (by kernel_rfl))
                exact wp_of_runL (rIndex _ _ _ _ _ A' w 36 9 1 (.tmp 50) (.tmp 51) bn 0 n c 0 0 Tryz.underlying36 (by kernel_rfl) (by omega) (by omega) q50 q51) ⟨_, rfl, rfl, LeavesE.plain (fun _ _ _ _ h hb => below_step h hb) (Below.refl _ _) (by decide)⟩
              · have q52 : A'.eval (.tmp 52) = .pointer (some ⟨bn, 0 + 0 * 1, none⟩) := (hsee 52 2 (by kernel_rfl) (by kernel_rfl)).2 (want_free (by kernel_rfl))
                exact wp_of_runL (rLoad1 _ _ _ _ _ A' w 9 (.tmp 52) _ _ _ Tryz.underlying9 rfl (HRs.out w hlow) q52) ⟨_, rfl, rfl, LeavesE.plain (fun _ _ _ _ h hb => below_step h hb) (Below.refl _ _) (by decide)⟩
              · have q53 : A'.eval (.tmp 53) = .string s := (hsee 53 3 (by kernel_rfl) (by kernel_rfl)).2 (want_free (by kernel_rfl))
                refine wp_of_callL _ _ _ _ _ _ _ 13 _ [.tmp 53] [.string s] (by simp [q53]) (by kernel_rfl) ((HNa.out w).mono ?_)
                rintro e' w2 ⟨rfl, hb2⟩
                exact ⟨_, rfl, _, rfl, rfl, LeavesE.plain (fun _ _ _ _ h hb => below_step h hb) hb2 (by decide)⟩
              · have q54 : A'.eval (.tmp 54) = .bool true := (hsee 54 4 (by kernel_rfl) (by kernel_rfl)).2 (want_free (by kernel_rfl))
                exact wp_of_runL (rNot _ _ _ _ _ A' w _ (.tmp 54) _ q54) ⟨_, rfl, rfl, LeavesE.plain (fun _ _ _ _ h hb => below_step h hb) (Below.refl _ _) (by decide)⟩
              · have q55 : A'.eval (.tmp 55) = .bool false := (hsee 55 5 (by kernel_rfl) (by kernel_rfl)).2 (want_free (by kernel_rfl))
                exact wp_of_runL (rMove _ _ _ _ _ A' w (.tmp 55) _ q55) ⟨_, rfl, rfl, LeavesE.plain (fun _ _ _ _ h hb => below_step h hb) (Below.refl _ _) (by decide)⟩
              · exact wp_of_runL (rMove _ _ _ _ _ A' w (.tmp 7) _ q7) ⟨_, rfl, rfl, LeavesE.plain (fun _ _ _ _ h hb => below_step h hb) (Below.refl _ _) (by decide)⟩
              · have q57 : A'.eval (.tmp 57) = .int .i64 0 := (hsee 57 7 (by kernel_rfl) (by kernel_rfl)).2 (hwn.same (by kernel_rfl))
                exact wp_of_runL (rGtrInt _ _ _ _ _ A' w _ _ (.tmp 57) _ 0 0 q57 rfl) ⟨_, rfl, rfl, LeavesE.plain (fun _ _ _ _ h hb => below_step h hb) (Below.refl _ _) (by decide)⟩
              · have q58 : A'.eval (.tmp 58) = .bool false := (hsee 58 8 (by kernel_rfl) (by kernel_rfl)).2 (hwn.same (by kernel_rfl))
                exact wp_of_runL (rMove _ _ _ _ _ A' w (.tmp 58) _ q58) ⟨_, rfl, rfl, LeavesE.plain (fun _ _ _ _ h hb => below_step h hb) (Below.refl _ _) (by decide)⟩
              · have e9 := hwn 9 true rfl
                obtain ⟨u, e6⟩ := Option.ne_none_iff_exists'.1 (hT.order 9 6 (by rw [e9]; simp) (by kernel_rfl))
                have hu : u = .bool false := hT.pure 6 _ e6 (want_free (by kernel_rfl))
                exact absurd (hT.pure 9 _ e9 (fun g b hg => by cases hg; rw [e6, hu])) (by intro h; cases h)
              · have e9 := hwn 9 true rfl
                obtain ⟨u, e6⟩ := Option.ne_none_iff_exists'.1 (hT.order 9 6 (by rw [e9]; simp) (by kernel_rfl))
                have hu : u = .bool false := hT.pure 6 _ e6 (want_free (by kernel_rfl))
                exact absurd (hT.pure 9 _ e9 (fun g b hg => by cases hg; rw [e6, hu])) (by intro h; cases h)
              · have e9 := hwn 9 true rfl
                obtain ⟨u, e6⟩ := Option.ne_none_iff_exists'.1 (hT.order 9 6 (by rw [e9]; simp) (by kernel_rfl))
                have hu : u = .bool false := hT.pure 6 _ e6 (want_free (by kernel_rfl))
                exact absurd (hT.pure 9 _ e9 (fun g b hg => by cases hg; rw [e6, hu])) (by intro h; cases h)
              · have e9 := hwn 9 true rfl
                obtain ⟨u, e6⟩ := Option.ne_none_iff_exists'.1 (hT.order 9 6 (by rw [e9]; simp) (by kernel_rfl))
                have hu : u = .bool false := hT.pure 6 _ e6 (want_free (by kernel_rfl))
                exact absurd (hT.pure 9 _ e9 (fun g b hg => by cases hg; rw [e6, hu])) (by intro h; cases h)
              · have e9 := hwn 9 true rfl
                obtain ⟨u, e6⟩ := Option.ne_none_iff_exists'.1 (hT.order 9 6 (by rw [e9]; simp) (by kernel_rfl))
                have hu : u = .bool false := hT.pure 6 _ e6 (want_free (by kernel_rfl))
                exact absurd (hT.pure 9 _ e9 (fun g b hg => by cases hg; rw [e6, hu])) (by intro h; cases h)
              · have e9 := hwn 9 true rfl
                obtain ⟨u, e6⟩ := Option.ne_none_iff_exists'.1 (hT.order 9 6 (by rw [e9]; simp) (by kernel_rfl))
                have hu : u = .bool false := hT.pure 6 _ e6 (want_free (by kernel_rfl))
                exact absurd (hT.pure 9 _ e9 (fun g b hg => by cases hg; rw [e6, hu])) (by intro h; cases h)
              · have e9 := hwn 9 true rfl
                obtain ⟨u, e6⟩ := Option.ne_none_iff_exists'.1 (hT.order 9 6 (by rw [e9]; simp) (by kernel_rfl))
                have hu : u = .bool false := hT.pure 6 _ e6 (want_free (by kernel_rfl))
                exact absurd (hT.pure 9 _ e9 (fun g b hg => by cases hg; rw [e6, hu])) (by intro h; cases h)
              · have e9 := hwn 9 true rfl
                obtain ⟨u, e6⟩ := Option.ne_none_iff_exists'.1 (hT.order 9 6 (by rw [e9]; simp) (by kernel_rfl))
                have hu : u = .bool false := hT.pure 6 _ e6 (want_free (by kernel_rfl))
                exact absurd (hT.pure 9 _ e9 (fun g b hg => by cases hg; rw [e6, hu])) (by intro h; cases h)
              · have e9 := hwn 9 true rfl
                obtain ⟨u, e6⟩ := Option.ne_none_iff_exists'.1 (hT.order 9 6 (by rw [e9]; simp) (by kernel_rfl))
                have hu : u = .bool false := hT.pure 6 _ e6 (want_free (by kernel_rfl))
                exact absurd (hT.pure 9 _ e9 (fun g b hg => by cases hg; rw [e6, hu])) (by intro h; cases h)
              · have e9 := hwn 9 true rfl
                obtain ⟨u, e6⟩ := Option.ne_none_iff_exists'.1 (hT.order 9 6 (by rw [e9]; simp) (by kernel_rfl))
                have hu : u = .bool false := hT.pure 6 _ e6 (want_free (by kernel_rfl))
                exact absurd (hT.pure 9 _ e9 (fun g b hg => by cases hg; rw [e6, hu])) (by intro h; cases h)
              · have q59 : A'.eval (.tmp 59) = .bool false := (hsee 59 9 (by kernel_rfl) (by kernel_rfl)).2 (hwn.same (by kernel_rfl))
                exact wp_of_runL (rPick _ _ _ _ _ A' w (.tmp 59) (.tmp 69) (.const (Value.bool false)) _ _ q59 (by rw [if_neg (by decide)]; exact rfl)) ⟨_, rfl, rfl, LeavesE.plain (fun _ _ _ _ h hb => below_step h hb) (Below.refl _ _) (by decide)⟩
              · have q56 : A'.eval (.tmp 56) = .bool false := (hsee 56 6 (by kernel_rfl) (by kernel_rfl)).2 (want_free (by kernel_rfl))
                have e6 : e 6 = some (.bool false) := by rw [(hsee 56 6 (by kernel_rfl) (by kernel_rfl)).1, q56]
                have q70 : A'.eval (.tmp 70) = .bool false := (hsee 70 20 (by kernel_rfl) (by kernel_rfl)).2 (fun g b hg => by cases hg; exact e6)
                exact wp_of_runL (rPick _ _ _ _ _ A' w (.tmp 56) (.const (Value.bool true)) (.tmp 70) _ _ q56 (by rw [if_neg (by decide)]; exact q70)) ⟨_, rfl, rfl, LeavesE.plain (fun _ _ _ _ h hb => below_step h hb) (Below.refl _ _) (by decide)⟩
            intro e wz hT hall
            obtain ⟨v0, e0⟩ := hall 0 (by decide)
            obtain ⟨v1, e1⟩ := hall 1 (by decide)
            obtain ⟨v2, e2⟩ := hall 2 (by decide)
            obtain ⟨v3, e3⟩ := hall 3 (by decide)
            obtain ⟨v4, e4⟩ := hall 4 (by decide)
            obtain ⟨v5, e5⟩ := hall 5 (by decide)
            obtain ⟨v6, e6⟩ := hall 6 (by decide)
            obtain ⟨v7, e7⟩ := hall 7 (by decide)
            obtain ⟨v8, e8⟩ := hall 8 (by decide)
            obtain ⟨v9, e9⟩ := hall 9 (by decide)
            obtain ⟨v10, e10⟩ := hall 10 (by decide)
            obtain ⟨v11, e11⟩ := hall 11 (by decide)
            obtain ⟨v12, e12⟩ := hall 12 (by decide)
            obtain ⟨v13, e13⟩ := hall 13 (by decide)
            obtain ⟨v14, e14⟩ := hall 14 (by decide)
            obtain ⟨v15, e15⟩ := hall 15 (by decide)
            obtain ⟨v16, e16⟩ := hall 16 (by decide)
            obtain ⟨v17, e17⟩ := hall 17 (by decide)
            obtain ⟨v18, e18⟩ := hall 18 (by decide)
            obtain ⟨v19, e19⟩ := hall 19 (by decide)
            obtain ⟨v20, e20⟩ := hall 20 (by decide)
            obtain ⟨v21, e21⟩ := hall 21 (by decide)
            have h21' : v21 = .bool false := hT.pure 21 _ e21 (want_free (by kernel_rfl))
            subst h21'
            have hF0 := hT.fact 0 rfl (by simp) (by simp) (by kernel_rfl)
            try simp only [nm13zV] at hF0
            simp only [List.length_cons, List.length_nil, Nat.reduceAdd, fillTo, e0, e1, e2, e3, e4, e5, e6, e7, e8, e9, e10, e11, e12, e13, e14, e15, e16, e17, e18, e19, e20, e21, dstOf]
            clear e0 e1 e2 e3 e4 e5 e6 e7 e8 e9 e10 e11 e12 e13 e14 e15 e16 e17 e18 e19 e20 e21 hT hall
            go_simp
            obtain ⟨w13, rfl⟩ : ∃ w, w = wz := ⟨wz, rfl⟩
            have HB13 := Lib.hid (below_step HB12.out hF0)
            clear hF0
            go_wp2_with fail
            go_roundw
            case rel => exact ⟨1, by omega, by go_num, HPn.out, HQn.out, HB13⟩
            case measure => simp [intOf]; omega
          case neg =>
            obtain ⟨jj, Hj⟩ : ∃ jj, Hid (k = jj + 1) := ⟨k - 1, Lib.hid (by omega)⟩
            have hwj : IntKind.i64.wrap ((k : Int) - 1) = (jj : Int) := by rw [IntKind.wrap_i64]; have := Hj.out; omega
            have hjn : jj < n := by have := Hj.out; omega
            have Hk0 : Hid (decide ((0 : Int) < k) = true) := Lib.hid (decide_eq_true (by omega))
            obtain ⟨p, Hp⟩ : ∃ p : ByteArray, Hid (p = ⟨(NM.getD jj []).toArray⟩) := ⟨_, Lib.hid rfl⟩
            have HRj := Lib.hid (fun w hw => HCell.out jj hjn w (below_step HB12.out hw))
            rw [← Hp.out] at HRj
            have Hlt : Hid ((!Op.bytesLess p.toList s.toList) = false) := Lib.hid (by
              rw [Hp.out, Hs.out, ByteArray.toList_eq, ByteArray.toList_eq]
              have := HLess.out jj (by have := Hj.out; omega)
              rw [← Hj.out] at this
              show (!Op.bytesLess (NM.getD jj []) (NM.getD k [])) = false
              rw [this]; rfl)
            apply wp_region_monoG 97 (nm13 bn c n k jj s p) nm13_below (by kernel_rfl) (by kernel_rfl) rfl
            · intro i o g b ho hgd u w hu
              have hi : i < 22 := by have := (List.getElem?_eq_some_iff.1 ho).1; simpa using this
              have hi : i = 0 ∨ i = 1 ∨ i = 2 ∨ i = 3 ∨ i = 4 ∨ i = 5 ∨ i = 6 ∨ i = 7 ∨ i = 8 ∨ i = 9 ∨ i = 10 ∨ i = 11 ∨ i = 12 ∨ i = 13 ∨ i = 14 ∨ i = 15 ∨ i = 16 ∨ i = 17 ∨ i = 18 ∨ i = 19 ∨ i = 20 ∨ i = 21 := by omega
              rcases hi with rfl | rfl | rfl | rfl | rfl | rfl | rfl | rfl | rfl | rfl | rfl | rfl | rfl | rfl | rfl | rfl | rfl | rfl | rfl | rfl | rfl | rfl
              all_goals
                simp only [List.getElem?_cons_succ, List.getElem?_cons_zero, Option.some.injEq] at ho
                subst ho
                cases hgd
                all_goals exact hu
            · intro i o ho w A' hlow hsee haway
              have q4 : A'.eval (.tmp 4) = .slice (some ⟨bn, 0, none⟩) n c := (haway 4 (by kernel_rfl)).trans rfl
              have q7 : A'.eval (.tmp 7) = .int .i64 k := (haway 7 (by kernel_rfl)).trans rfl
              have hi : i < 22 := by have := (List.getElem?_eq_some_iff.1 ho).1; simpa using this
              have hi : i = 0 ∨ i = 1 ∨ i = 2 ∨ i = 3 ∨ i = 4 ∨ i = 5 ∨ i = 6 ∨ i = 7 ∨ i = 8 ∨ i = 9 ∨ i = 10 ∨ i = 11 ∨ i = 12 ∨ i = 13 ∨ i = 14 ∨ i = 15 ∨ i = 16 ∨ i = 17 ∨ i = 18 ∨ i = 19 ∨ i = 20 ∨ i = 21 := by omega
              rcases hi with rfl | rfl | rfl | rfl | rfl | rfl | rfl | rfl | rfl | rfl | rfl | rfl | rfl | rfl | rfl | rfl | rfl | rfl | rfl | rfl | rfl | rfl
              all_goals
                simp only [List.getElem?_cons_succ, List.getElem?_cons_zero, Option.some.injEq] at ho
                subst ho
              · exact wp_of_runL (rMove _ _ _ _ _ A' w (.tmp 4) _ q4) ⟨_, rfl, Below.refl _ _, rfl⟩
              · exact wp_of_runL (rMove _ _ _ _ _ A' w (.tmp 7) _ q7) ⟨_, rfl, Below.refl _ _, rfl⟩
              · have q50 : A'.eval (.tmp 50) = .slice (some ⟨bn, 0, none⟩) n c := hsee 50 0 (by kernel_rfl) (by kernel_rfl)
                have q51 : A'.eval (.tmp 51) = .int .i64 k := hsee 51 1 (by kernel_rfl) (by kernel_rfl)
                exact wp_of_runL (rIndex _ _ _ _ _ A' w 36 9 1 (.tmp 50) (.tmp 51) bn 0 n c k k Tryz.underlying36 (by kernel_rfl) (by omega) (by omega) q50 q51) ⟨_, rfl, Below.refl _ _, rfl⟩
              · have q52 : A'.eval (.tmp 52) = .pointer (some ⟨bn, 0 + k * 1, none⟩) := hsee 52 2 (by kernel_rfl) (by kernel_rfl)
                exact wp_of_runL (rLoad1 _ _ _ _ _ A' w 9 (.tmp 52) _ _ _ Tryz.underlying9 rfl (HRs.out w hlow) q52) ⟨_, rfl, Below.refl _ _, rfl⟩
              · have q53 : A'.eval (.tmp 53) = .string s := hsee 53 3 (by kernel_rfl) (by kernel_rfl)
                refine wp_of_callL _ _ _ _ _ _ _ 13 _ [.tmp 53] [.string s] (by simp [q53]) (by kernel_rfl) ((HNa.out w).mono ?_)
                rintro e w2 ⟨rfl, hb2⟩
                exact ⟨_, rfl, _, rfl, hb2, rfl⟩
              · have q54 : A'.eval (.tmp 54) = .bool true := hsee 54 4 (by kernel_rfl) (by kernel_rfl)
                exact wp_of_runL (rNot _ _ _ _ _ A' w _ (.tmp 54) _ q54) ⟨_, rfl, Below.refl _ _, rfl⟩
              · have q55 : A'.eval (.tmp 55) = .bool false := hsee 55 5 (by kernel_rfl) (by kernel_rfl)
                exact wp_of_runL (rMove _ _ _ _ _ A' w (.tmp 55) _ q55) ⟨_, rfl, Below.refl _ _, rfl⟩
              · exact wp_of_runL (rMove _ _ _ _ _ A' w (.tmp 7) _ q7) ⟨_, rfl, Below.refl _ _, rfl⟩
              · have q57 : A'.eval (.tmp 57) = .int .i64 k := hsee 57 7 (by kernel_rfl) (by kernel_rfl)
                exact wp_of_runL ((rGtrInt _ _ _ _ _ A' w _ _ (.tmp 57) _ k 0 q57 rfl).trans (by rw [Hk0.out])) ⟨_, rfl, Below.refl _ _, rfl⟩
              · have q58 : A'.eval (.tmp 58) = .bool true := hsee 58 8 (by kernel_rfl) (by kernel_rfl)
                exact wp_of_runL (rMove _ _ _ _ _ A' w (.tmp 58) _ q58) ⟨_, rfl, Below.refl _ _, rfl⟩
              · exact wp_of_runL (rMove _ _ _ _ _ A' w (.tmp 4) _ q4) ⟨_, rfl, Below.refl _ _, rfl⟩
              · exact wp_of_runL (rMove _ _ _ _ _ A' w (.tmp 7) _ q7) ⟨_, rfl, Below.refl _ _, rfl⟩
              · have q61 : A'.eval (.tmp 61) = .int .i64 k := hsee 61 11 (by kernel_rfl) (by kernel_rfl)
                exact wp_of_runL (rSubInt _ _ _ _ _ A' w _ _ (.tmp 61) _ k 1 jj q61 rfl hwj) ⟨_, rfl, Below.refl _ _, rfl⟩
              · have q60 : A'.eval (.tmp 60) = .slice (some ⟨bn, 0, none⟩) n c := hsee 60 10 (by kernel_rfl) (by kernel_rfl)
                have q62 : A'.eval (.tmp 62) = .int .i64 jj := hsee 62 12 (by kernel_rfl) (by kernel_rfl)
                exact wp_of_runL (rIndex _ _ _ _ _ A' w 36 9 1 (.tmp 60) (.tmp 62) bn 0 n c jj jj Tryz.underlying36 (by kernel_rfl) (by omega) (by omega) q60 q62) ⟨_, rfl, Below.refl _ _, rfl⟩
              · have q63 : A'.eval (.tmp 63) = .pointer (some ⟨bn, 0 + jj * 1, none⟩) := hsee 63 13 (by kernel_rfl) (by kernel_rfl)
                exact wp_of_runL (rLoad1 _ _ _ _ _ A' w 9 (.tmp 63) _ _ _ Tryz.underlying9 rfl (HRj.out w hlow) q63) ⟨_, rfl, Below.refl _ _, rfl⟩
              · exact wp_of_runL (rMove _ _ _ _ _ A' w (.tmp 4) _ q4) ⟨_, rfl, Below.refl _ _, rfl⟩
              · exact wp_of_runL (rMove _ _ _ _ _ A' w (.tmp 7) _ q7) ⟨_, rfl, Below.refl _ _, rfl⟩
              · have q65 : A'.eval (.tmp 65) = .slice (some ⟨bn, 0, none⟩) n c := hsee 65 15 (by kernel_rfl) (by kernel_rfl)
                have q66 : A'.eval (.tmp 66) = .int .i64 k := hsee 66 16 (by kernel_rfl) (by kernel_rfl)
                exact wp_of_runL (rIndex _ _ _ _ _ A' w 36 9 1 (.tmp 65) (.tmp 66) bn 0 n c k k Tryz.underlying36 (by kernel_rfl) (by omega) (by omega) q65 q66) ⟨_, rfl, Below.refl _ _, rfl⟩
              · have q67 : A'.eval (.tmp 67) = .pointer (some ⟨bn, 0 + k * 1, none⟩) := hsee 67 17 (by kernel_rfl) (by kernel_rfl)
                exact wp_of_runL (rLoad1 _ _ _ _ _ A' w 9 (.tmp 67) _ _ _ Tryz.underlying9 rfl (HRs.out w hlow) q67) ⟨_, rfl, Below.refl _ _, rfl⟩
              · have q64 : A'.eval (.tmp 64) = .string p := hsee 64 14 (by kernel_rfl) (by kernel_rfl)
                have q68 : A'.eval (.tmp 68) = .string s := hsee 68 18 (by kernel_rfl) (by kernel_rfl)
                exact wp_of_runL ((rGeqStr _ _ _ _ _ A' w _ _ (.tmp 64) (.tmp 68) p s q64 q68).trans (by rw [Hlt.out])) ⟨_, rfl, Below.refl _ _, rfl⟩
              · have q59 : A'.eval (.tmp 59) = .bool true := hsee 59 9 (by kernel_rfl) (by kernel_rfl)
                have q69 : A'.eval (.tmp 69) = .bool false := hsee 69 19 (by kernel_rfl) (by kernel_rfl)
                exact wp_of_runL (rPick _ _ _ _ _ A' w (.tmp 59) (.tmp 69) (.const (Value.bool false)) _ _ q59 (by rw [if_pos rfl]; exact q69)) ⟨_, rfl, Below.refl _ _, rfl⟩
              · have q56 : A'.eval (.tmp 56) = .bool false := hsee 56 6 (by kernel_rfl) (by kernel_rfl)
                have q70 : A'.eval (.tmp 70) = .bool false := hsee 70 20 (by kernel_rfl) (by kernel_rfl)
                exact wp_of_runL (rPick _ _ _ _ _ A' w (.tmp 56) (.const (Value.bool true)) (.tmp 70) _ _ q56 (by rw [if_neg (by decide)]; exact q70)) ⟨_, rfl, Below.refl _ _, rfl⟩
            intro e wz hlow hall
            obtain ⟨v0, e0, -⟩ := hall 0 (by decide)
            obtain ⟨v1, e1, -⟩ := hall 1 (by decide)
            obtain ⟨v2, e2, -⟩ := hall 2 (by decide)
            obtain ⟨v3, e3, -⟩ := hall 3 (by decide)
            obtain ⟨v4, e4, -⟩ := hall 4 (by decide)
            obtain ⟨v5, e5, -⟩ := hall 5 (by decide)
            obtain ⟨v6, e6, -⟩ := hall 6 (by decide)
            obtain ⟨v7, e7, -⟩ := hall 7 (by decide)
            obtain ⟨v8, e8, -⟩ := hall 8 (by decide)
            obtain ⟨v9, e9, -⟩ := hall 9 (by decide)
            obtain ⟨v10, e10, -⟩ := hall 10 (by decide)
            obtain ⟨v11, e11, -⟩ := hall 11 (by decide)
            obtain ⟨v12, e12, -⟩ := hall 12 (by decide)
            obtain ⟨v13, e13, -⟩ := hall 13 (by decide)
            obtain ⟨v14, e14, -⟩ := hall 14 (by decide)
            obtain ⟨v15, e15, -⟩ := hall 15 (by decide)
            obtain ⟨v16, e16, -⟩ := hall 16 (by decide)
            obtain ⟨v17, e17, -⟩ := hall 17 (by decide)
            obtain ⟨v18, e18, -⟩ := hall 18 (by decide)
            obtain ⟨v19, e19, -⟩ := hall 19 (by decide)
            obtain ⟨v20, e20, -⟩ := hall 20 (by decide)
            obtain ⟨v21, e21, h21⟩ := hall 21 (by decide)
            have h21' : v21 = .bool false := h21
            subst h21'
            clear h21
            have HLow := Lib.hid hlow
            simp only [List.length_cons, List.length_nil, Nat.reduceAdd, fillTo, e0, e1, e2, e3, e4, e5, e6, e7, e8, e9, e10, e11, e12, e13, e14, e15, e16, e17, e18, e19, e20, e21, dstOf]
            clear e0 e1 e2 e3 e4 e5 e6 e7 e8 e9 e10 e11 e12 e13 e14 e15 e16 e17 e18 e19 e20 e21 hlow hall
            go_simp
            obtain ⟨w13, rfl⟩ : ∃ w, w = wz := ⟨wz, rfl⟩
            have HB13 := Lib.hid (below_step HB12.out HLow.out)
            go_wp2_with fail
            go_roundw
            case rel => exact ⟨k + 1, by omega, by go_num, HPn.out, HQn.out, HB13⟩
            case measure => simp [intOf]; omega
      | false =>
        apply wp_region_monoG 97 (nm11 bn c n k N0 s pt b) nm11_below (by kernel_rfl) (by kernel_rfl) rfl
        · intro i o g b ho hgd u w hu
          have hi : i < 11 := by have := (List.getElem?_eq_some_iff.1 ho).1; simpa using this
          have hi : i = 0 ∨ i = 1 ∨ i = 2 ∨ i = 3 ∨ i = 4 ∨ i = 5 ∨ i = 6 ∨ i = 7 ∨ i = 8 ∨ i = 9 ∨ i = 10 := by omega
          rcases hi with rfl | rfl | rfl | rfl | rfl | rfl | rfl | rfl | rfl | rfl | rfl
          all_goals
            simp only [List.getElem?_cons_succ, List.getElem?_cons_zero, Option.some.injEq] at ho
            subst ho
            cases hgd
            all_goals exact hu
        · intro i o ho w A' hlow hsee haway
          have q1 : A'.eval (.tmp 1) = .pointer (some ⟨N0, 0, none⟩) := (haway 1 (by kernel_rfl)).trans rfl
          have q4 : A'.eval (.tmp 4) = .slice (some ⟨bn, 0, none⟩) n c := (haway 4 (by kernel_rfl)).trans rfl
          have q7 : A'.eval (.tmp 7) = .int .i64 k := (haway 7 (by kernel_rfl)).trans rfl
          have hi : i < 11 := by have := (List.getElem?_eq_some_iff.1 ho).1; simpa using this
          have hi : i = 0 ∨ i = 1 ∨ i = 2 ∨ i = 3 ∨ i = 4 ∨ i = 5 ∨ i = 6 ∨ i = 7 ∨ i = 8 ∨ i = 9 ∨ i = 10 := by omega
          rcases hi with rfl | rfl | rfl | rfl | rfl | rfl | rfl | rfl | rfl | rfl | rfl
          all_goals
            simp only [List.getElem?_cons_succ, List.getElem?_cons_zero, Option.some.injEq] at ho
            subst ho
          · have q5 : A'.eval (.tmp 5) = .bool false := (haway 5 (by kernel_rfl)).trans rfl
            exact wp_of_runL (rMove _ _ _ _ _ A' w (.tmp 5) _ q5) ⟨_, rfl, Below.refl _ _, rfl⟩
          · have q30 : A'.eval (.tmp 30) = .bool false := hsee 30 0 (by kernel_rfl) (by kernel_rfl)
            exact wp_of_runL (rMove _ _ _ _ _ A' w (.tmp 30) _ q30) ⟨_, rfl, Below.refl _ _, rfl⟩
          · exact wp_of_runL (rMove _ _ _ _ _ A' w (.tmp 4) _ q4) ⟨_, rfl, Below.refl _ _, rfl⟩
          · exact wp_of_runL (rMove _ _ _ _ _ A' w (.tmp 7) _ q7) ⟨_, rfl, Below.refl _ _, rfl⟩
          · have q32 : A'.eval (.tmp 32) = .slice (some ⟨bn, 0, none⟩) n c := hsee 32 2 (by kernel_rfl) (by kernel_rfl)
            have q33 : A'.eval (.tmp 33) = .int .i64 k := hsee 33 3 (by kernel_rfl) (by kernel_rfl)
            exact wp_of_runL (rIndex _ _ _ _ _ A' w 36 9 1 (.tmp 32) (.tmp 33) bn 0 n c k k Tryz.underlying36 (by kernel_rfl) (by omega) (by omega) q32 q33) ⟨_, rfl, Below.refl _ _, rfl⟩
          · have q34 : A'.eval (.tmp 34) = .pointer (some ⟨bn, 0 + k * 1, none⟩) := hsee 34 4 (by kernel_rfl) (by kernel_rfl)
            exact wp_of_runL (rLoad1 _ _ _ _ _ A' w 9 (.tmp 34) _ _ _ Tryz.underlying9 rfl (HRs.out w hlow) q34) ⟨_, rfl, Below.refl _ _, rfl⟩
          · exact wp_of_runL (rField _ _ _ _ _ A' w 27 (.tmp 1) 2 N0 0 2 _ _ Tryz.underlying27 rfl (by kernel_rfl) rfl (by kernel_rfl) q1) ⟨_, rfl, Below.refl _ _, rfl⟩
          · have q36 : A'.eval (.tmp 36) = .pointer (some ⟨N0, 2, none⟩) := hsee 36 6 (by kernel_rfl) (by kernel_rfl)
            exact wp_of_runL (rLoad1 _ _ _ _ _ A' w 9 (.tmp 36) _ _ _ Tryz.underlying9 rfl (HRp.out w hlow) q36) ⟨_, rfl, Below.refl _ _, rfl⟩
          · have q35 : A'.eval (.tmp 35) = .string s := hsee 35 5 (by kernel_rfl) (by kernel_rfl)
            have q37 : A'.eval (.tmp 37) = .string pt := hsee 37 7 (by kernel_rfl) (by kernel_rfl)
            exact wp_of_runL ((rEqlStr _ _ _ _ _ A' w _ _ (.tmp 35) (.tmp 37) s pt q35 q37).trans (by rw [Hb.out])) ⟨_, rfl, Below.refl _ _, rfl⟩
          · have q31 : A'.eval (.tmp 31) = .bool false := hsee 31 1 (by kernel_rfl) (by kernel_rfl)
            have q38 : A'.eval (.tmp 38) = .bool b := hsee 38 8 (by kernel_rfl) (by kernel_rfl)
            exact wp_of_runL (rPick _ _ _ _ _ A' w (.tmp 31) (.const (Value.bool true)) (.tmp 38) _ _ q31 (by rw [if_neg (by decide)]; exact q38)) ⟨_, rfl, Below.refl _ _, rfl⟩
          · have q39 : A'.eval (.tmp 39) = .bool b := hsee 39 9 (by kernel_rfl) (by kernel_rfl)
            exact wp_of_runL (rAssign _ _ _ _ _ A' w (.tmp 39) _ q39) ⟨_, rfl, Below.refl _ _, rfl⟩
        intro e wz hlow hall
        obtain ⟨v0, e0, -⟩ := hall 0 (by decide)
        obtain ⟨v1, e1, -⟩ := hall 1 (by decide)
        obtain ⟨v2, e2, -⟩ := hall 2 (by decide)
        obtain ⟨v3, e3, -⟩ := hall 3 (by decide)
        obtain ⟨v4, e4, -⟩ := hall 4 (by decide)
        obtain ⟨v5, e5, -⟩ := hall 5 (by decide)
        obtain ⟨v6, e6, -⟩ := hall 6 (by decide)
        obtain ⟨v7, e7, -⟩ := hall 7 (by decide)
        obtain ⟨v8, e8, -⟩ := hall 8 (by decide)
        obtain ⟨v9, e9, -⟩ := hall 9 (by decide)
        obtain ⟨v10, e10, h10⟩ := hall 10 (by decide)
        have h10' : v10 = .bool b := h10
        subst h10'
        clear h10
        have HLow := Lib.hid hlow
        simp only [List.length_cons, List.length_nil, Nat.reduceAdd, fillTo, e0, e1, e2, e3, e4, e5, e6, e7, e8, e9, e10, dstOf]
        clear e0 e1 e2 e3 e4 e5 e6 e7 e8 e9 e10 hlow hall
        go_simp
        obtain ⟨w11, rfl⟩ : ∃ w, w = wz := ⟨wz, rfl⟩
        have HB11 := Lib.hid (below_step HR.out HLow.out)
        clear HLow HRs HRp
        have HPn : Hid (Value.bool b = .bool (pk (k + 1))) := Lib.hid (by rw [HPs.out]; rfl)
        go_wp2_with fail
        have HRs := Lib.hid (fun w hw => HCell.out k hkn w (below_step HB11.out hw))
        rw [← Hs.out] at HRs
        have HRi := Lib.hid (fun w (hw : Below w11.heap.size w11 w) => (HEv.out w (below_step HB11.out hw)).2)
        cases q0 with
        | true =>
          apply wp_region_entE 97 [([], [])] ((fun _ _ w => Below w11.heap.size w11 w)) (nm12eV ()) (fun _ _ _ _ _ _ _ _ h => h) (by kernel_rfl) (by kernel_rfl) rfl (fun _ _ _ => (Below.refl _ _).drew)
          · intro i o ho e w A' hT hei hwn hsee haway
            have hi : i < 11 := by have := (List.getElem?_eq_some_iff.1 ho).1; simpa using this
            have hi : i = 0 ∨ i = 1 ∨ i = 2 ∨ i = 3 ∨ i = 4 ∨ i = 5 ∨ i = 6 ∨ i = 7 ∨ i = 8 ∨ i = 9 ∨ i = 10 := by omega
            rcases hi with rfl | rfl | rfl | rfl | rfl | rfl | rfl | rfl | rfl | rfl | rfl
            all_goals
              simp only [List.getElem?_cons_succ, List.getElem?_cons_zero, Option.some.injEq] at ho
              subst ho
            · have q6 : A'.eval (.tmp 6) = .bool true := (haway 6 (by kernel_rfl)).trans rfl
              exact wp_of_runL (rMove _ _ _ _ _ A' w (.tmp 6) _ q6) ⟨_, rfl, rfl, LeavesE.plain (fun _ _ _ _ h hb => below_step h hb) (Below.refl _ _) (by decide)⟩
            · have q40 : A'.eval (.tmp 40) = .bool true := (hsee 40 0 (by kernel_rfl) (by kernel_rfl)).2 (want_free (by kernel_rfl))
              exact wp_of_runL (rMove _ _ _ _ _ A' w (.tmp 40) _ q40) ⟨_, rfl, rfl, LeavesE.plain (fun _ _ _ _ h hb => below_step h hb) (Below.refl _ _) (by decide)⟩
            · exact absurd (hT.pure 1 _ (hwn 1 false rfl) (want_free (by kernel_rfl))) (by intro h; cases h)
            · exact absurd (hT.pure 1 _ (hwn 1 false rfl) (want_free (by kernel_rfl))) (by intro h; cases h)
            · have q42 : A'.eval (.tmp 42) = .bool true := (hsee 42 2 (by kernel_rfl) (by kernel_rfl)).2 (hwn.same (by kernel_rfl))
              have q43 : A'.eval (.tmp 43) = .bool true := (hsee 43 3 (by kernel_rfl) (by kernel_rfl)).2 (hwn.same (by kernel_rfl))
              exact absurd (hT.pure 1 _ (hwn 1 false rfl) (want_free (by kernel_rfl))) (by intro h; cases h)
            · have q44 : A'.eval (.tmp 44) = .bool true := (hsee 44 4 (by kernel_rfl) (by kernel_rfl)).2 (hwn.same (by kernel_rfl))
              exact absurd (hT.pure 1 _ (hwn 1 false rfl) (want_free (by kernel_rfl))) (by intro h; cases h)
            · exact absurd (hT.pure 1 _ (hwn 1 false rfl) (want_free (by kernel_rfl))) (by intro h; cases h)
            · have q46 : A'.eval (.tmp 46) = .bool true := (hsee 46 6 (by kernel_rfl) (by kernel_rfl)).2 (hwn.same (by kernel_rfl))
              exact absurd (hT.pure 1 _ (hwn 1 false rfl) (want_free (by kernel_rfl))) (by intro h; cases h)
            · have q45 : A'.eval (.tmp 45) = .bool true := (hsee 45 5 (by kernel_rfl) (by kernel_rfl)).2 (hwn.same (by kernel_rfl))
              have q47 : A'.eval (.tmp 47) = .bool true := (hsee 47 7 (by kernel_rfl) (by kernel_rfl)).2 (hwn.same (by kernel_rfl))
              exact absurd (hT.pure 1 _ (hwn 1 false rfl) (want_free (by kernel_rfl))) (by intro h; cases h)
            · have q41 : A'.eval (.tmp 41) = .bool true := (hsee 41 1 (by kernel_rfl) (by kernel_rfl)).2 (want_free (by kernel_rfl))
              exact wp_of_runL (rPick _ _ _ _ _ A' w (.tmp 41) (.const (Value.bool true)) (.tmp 48) _ _ q41 (by rw [if_pos rfl]; exact rfl)) ⟨_, rfl, rfl, LeavesE.plain (fun _ _ _ _ h hb => below_step h hb) (Below.refl _ _) (by decide)⟩
            · have q49 : A'.eval (.tmp 49) = .bool true := (hsee 49 9 (by kernel_rfl) (by kernel_rfl)).2 (want_free (by kernel_rfl))
              exact wp_of_runL (rAssign _ _ _ _ _ A' w (.tmp 49) _ q49) ⟨_, rfl, rfl, LeavesE.plain (fun _ _ _ _ h hb => below_step h hb) (Below.refl _ _) (by decide)⟩
          intro e wz hT hall
          obtain ⟨v0, e0⟩ := hall 0 (by decide)
          obtain ⟨v1, e1⟩ := hall 1 (by decide)
          obtain ⟨v2, e2⟩ := hall 2 (by decide)
          obtain ⟨v3, e3⟩ := hall 3 (by decide)
          obtain ⟨v4, e4⟩ := hall 4 (by decide)
          obtain ⟨v5, e5⟩ := hall 5 (by decide)
          obtain ⟨v6, e6⟩ := hall 6 (by decide)
          obtain ⟨v7, e7⟩ := hall 7 (by decide)
          obtain ⟨v8, e8⟩ := hall 8 (by decide)
          obtain ⟨v9, e9⟩ := hall 9 (by decide)
          obtain ⟨v10, e10⟩ := hall 10 (by decide)
          have h10' : v10 = .bool true := hT.pure 10 _ e10 (want_free (by kernel_rfl))
          subst h10'
          have hF0 := hT.fact 0 rfl (by simp) (by simp) (by kernel_rfl)
          try simp only [nm12eV] at hF0
          simp only [List.length_cons, List.length_nil, Nat.reduceAdd, fillTo, e0, e1, e2, e3, e4, e5, e6, e7, e8, e9, e10, dstOf]
          clear e0 e1 e2 e3 e4 e5 e6 e7 e8 e9 e10 hT hall
          go_simp
          obtain ⟨w12, rfl⟩ : ∃ w, w = wz := ⟨wz, rfl⟩
          have HB12 := Lib.hid (below_step HB11.out hF0)
          clear hF0 HRs
          have HRs := Lib.hid (fun w hw => HCell.out k hkn w (below_step HB12.out hw))
          rw [← Hs.out] at HRs
          have HQn : Hid (Value.bool true = .bool (qk (k + 1))) := Lib.hid (by rw [HQs.out]; rfl)
          go_wp2_with fail
          by_cases hk0 : k = 0
          case pos =>
            subst hk0
            apply wp_region_entE 97 [([], [])] ((fun _ _ w => Below w12.heap.size w12 w)) (nm13zV bn c n s) (fun _ _ _ _ _ _ _ _ h => h) (by kernel_rfl) (by kernel_rfl) rfl (fun _ _ _ => (Below.refl _ _).drew)
            · intro i o ho e w A' hT hei hwn hsee haway
              have q4 : A'.eval (.tmp 4) = .slice (some ⟨bn, 0, none⟩) n c := (haway 4 (by kernel_rfl)).trans rfl
              have q7 : A'.eval (.tmp 7) = .int .i64 0 := (haway 7 (by kernel_rfl)).trans rfl
              have hlow : Below w12.heap.size w12 w := hT.fact 0 rfl (by simp) (by simp) rfl
              have hi : i < 22 := by have := (List.getElem?_eq_some_iff.1 ho).1; simpa using this
              have hi : i = 0 ∨ i = 1 ∨ i = 2 ∨ i = 3 ∨ i = 4 ∨ i = 5 ∨ i = 6 ∨ i = 7 ∨ i = 8 ∨ i = 9 ∨ i = 10 ∨ i = 11 ∨ i = 12 ∨ i = 13 ∨ i = 14 ∨ i = 15 ∨ i = 16 ∨ i = 17 ∨ i = 18 ∨ i = 19 ∨ i = 20 ∨ i = 21 := by omega
              rcases hi with rfl | rfl | rfl | rfl | rfl | rfl | rfl | rfl | rfl | rfl | rfl | rfl | rfl | rfl | rfl | rfl | rfl | rfl | rfl | rfl | rfl | rfl
              all_goals
                simp only [List.getElem?_cons_succ, List.getElem?_cons_zero, Option.some.injEq] at ho
                subst ho
              · exact wp_of_runL (rMove _ _ _ _ _ A' w (.tmp 4) _ q4) ⟨_, rfl, rfl, LeavesE.plain (fun _ _ _ _ h hb => below_step h hb) (Below.refl _ _) (by decide)⟩
              · exact wp_of_runL (rMove _ _ _ _ _ A' w (.tmp 7) _ q7) ⟨_, rfl, rfl, LeavesE.plain (fun _ _ _ _ h hb => below_step h hb) (Below.refl _ _) (by decide)⟩
              · have q50 : A'.eval (.tmp 50) = .slice (some ⟨bn, 0, none⟩) n c := (hsee 50 0 (by kernel_rfl) (by kernel_rfl)).2 (want_free (by kernel_rfl))
                have q51 : A'.eval (.tmp 51) = .int .i64 0 := (hsee 51 1 (by kernel_rfl) (by kernel_rfl)).2 (want_free (by kernel_rfl))
                exact wp_of_runL (rIndex _ _ _ _ _ A' w 36 9 1 (.tmp 50) (.tmp 51) bn 0 n c 0 0 Tryz.underlying36 (by kernel_rfl) (by omega) (by omega) q50 q51) ⟨_, rfl, rfl, LeavesE.plain (fun _ _ _ _ h hb => below_step h hb) (Below.refl _ _) (by decide)⟩
              · have q52 : A'.eval (.tmp 52) = .pointer (some ⟨bn, 0 + 0 * 1, none⟩) := (hsee 52 2 (by kernel_rfl) (by kernel_rfl)).2 (want_free (by kernel_rfl))
                exact wp_of_runL (rLoad1 _ _ _ _ _ A' w 9 (.tmp 52) _ _ _ Tryz.underlying9 rfl (HRs.out w hlow) q52) ⟨_, rfl, rfl, LeavesE.plain (fun _ _ _ _ h hb => below_step h hb) (Below.refl _ _) (by decide)⟩
              · have q53 : A'.eval (.tmp 53) = .string s := (hsee 53 3 (by kernel_rfl) (by kernel_rfl)).2 (want_free (by kernel_rfl))
                refine wp_of_callL _ _ _ _ _ _ _ 13 _ [.tmp 53] [.string s] (by simp [q53]) (by kernel_rfl) ((HNa.out w).mono ?_)
                rintro e' w2 ⟨rfl, hb2⟩
                exact ⟨_, rfl, _, rfl, rfl, LeavesE.plain (fun _ _ _ _ h hb => below_step h hb) hb2 (by decide)⟩
              · have q54 : A'.eval (.tmp 54) = .bool true := (hsee 54 4 (by kernel_rfl) (by kernel_rfl)).2 (want_free (by kernel_rfl))
                exact wp_of_runL (rNot _ _ _ _ _ A' w _ (.tmp 54) _ q54) ⟨_, rfl, rfl, LeavesE.plain (fun _ _ _ _ h hb => below_step h hb) (Below.refl _ _) (by decide)⟩
              · have q55 : A'.eval (.tmp 55) = .bool false := (hsee 55 5 (by kernel_rfl) (by kernel_rfl)).2 (want_free (by kernel_rfl))
                exact wp_of_runL (rMove _ _ _ _ _ A' w (.tmp 55) _ q55) ⟨_, rfl, rfl, LeavesE.plain (fun _ _ _ _ h hb => below_step h hb) (Below.refl _ _) (by decide)⟩
              · exact wp_of_runL (rMove _ _ _ _ _ A' w (.tmp 7) _ q7) ⟨_, rfl, rfl, LeavesE.plain (fun _ _ _ _ h hb => below_step h hb) (Below.refl _ _) (by decide)⟩
              · have q57 : A'.eval (.tmp 57) = .int .i64 0 := (hsee 57 7 (by kernel_rfl) (by kernel_rfl)).2 (hwn.same (by kernel_rfl))
                exact wp_of_runL (rGtrInt _ _ _ _ _ A' w _ _ (.tmp 57) _ 0 0 q57 rfl) ⟨_, rfl, rfl, LeavesE.plain (fun _ _ _ _ h hb => below_step h hb) (Below.refl _ _) (by decide)⟩
              · have q58 : A'.eval (.tmp 58) = .bool false := (hsee 58 8 (by kernel_rfl) (by kernel_rfl)).2 (hwn.same (by kernel_rfl))
                exact wp_of_runL (rMove _ _ _ _ _ A' w (.tmp 58) _ q58) ⟨_, rfl, rfl, LeavesE.plain (fun _ _ _ _ h hb => below_step h hb) (Below.refl _ _) (by decide)⟩
              · have e9 := hwn 9 true rfl
                obtain ⟨u, e6⟩ := Option.ne_none_iff_exists'.1 (hT.order 9 6 (by rw [e9]; simp) (by kernel_rfl))
                have hu : u = .bool false := hT.pure 6 _ e6 (want_free (by kernel_rfl))
                exact absurd (hT.pure 9 _ e9 (fun g b hg => by cases hg; rw [e6, hu])) (by intro h; cases h)
              · have e9 := hwn 9 true rfl
                obtain ⟨u, e6⟩ := Option.ne_none_iff_exists'.1 (hT.order 9 6 (by rw [e9]; simp) (by kernel_rfl))
                have hu : u = .bool false := hT.pure 6 _ e6 (want_free (by kernel_rfl))
                exact absurd (hT.pure 9 _ e9 (fun g b hg => by cases hg; rw [e6, hu])) (by intro h; cases h)
              · have e9 := hwn 9 true rfl
                obtain ⟨u, e6⟩ := Option.ne_none_iff_exists'.1 (hT.order 9 6 (by rw [e9]; simp) (by kernel_rfl))
                have hu : u = .bool false := hT.pure 6 _ e6 (want_free (by kernel_rfl))
                exact absurd (hT.pure 9 _ e9 (fun g b hg => by cases hg; rw [e6, hu])) (by intro h; cases h)
              · have e9 := hwn 9 true rfl
                obtain ⟨u, e6⟩ := Option.ne_none_iff_exists'.1 (hT.order 9 6 (by rw [e9]; simp) (by kernel_rfl))
                have hu : u = .bool false := hT.pure 6 _ e6 (want_free (by kernel_rfl))
                exact absurd (hT.pure 9 _ e9 (fun g b hg => by cases hg; rw [e6, hu])) (by intro h; cases h)
              · have e9 := hwn 9 true rfl
                obtain ⟨u, e6⟩ := Option.ne_none_iff_exists'.1 (hT.order 9 6 (by rw [e9]; simp) (by kernel_rfl))
                have hu : u = .bool false := hT.pure 6 _ e6 (want_free (by kernel_rfl))
                exact absurd (hT.pure 9 _ e9 (fun g b hg => by cases hg; rw [e6, hu])) (by intro h; cases h)
              · have e9 := hwn 9 true rfl
                obtain ⟨u, e6⟩ := Option.ne_none_iff_exists'.1 (hT.order 9 6 (by rw [e9]; simp) (by kernel_rfl))
                have hu : u = .bool false := hT.pure 6 _ e6 (want_free (by kernel_rfl))
                exact absurd (hT.pure 9 _ e9 (fun g b hg => by cases hg; rw [e6, hu])) (by intro h; cases h)
              · have e9 := hwn 9 true rfl
                obtain ⟨u, e6⟩ := Option.ne_none_iff_exists'.1 (hT.order 9 6 (by rw [e9]; simp) (by kernel_rfl))
                have hu : u = .bool false := hT.pure 6 _ e6 (want_free (by kernel_rfl))
                exact absurd (hT.pure 9 _ e9 (fun g b hg => by cases hg; rw [e6, hu])) (by intro h; cases h)
              · have e9 := hwn 9 true rfl
                obtain ⟨u, e6⟩ := Option.ne_none_iff_exists'.1 (hT.order 9 6 (by rw [e9]; simp) (by kernel_rfl))
                have hu : u = .bool false := hT.pure 6 _ e6 (want_free (by kernel_rfl))
                exact absurd (hT.pure 9 _ e9 (fun g b hg => by cases hg; rw [e6, hu])) (by intro h; cases h)
              · have e9 := hwn 9 true rfl
                obtain ⟨u, e6⟩ := Option.ne_none_iff_exists'.1 (hT.order 9 6 (by rw [e9]; simp) (by kernel_rfl))
                have hu : u = .bool false := hT.pure 6 _ e6 (want_free (by kernel_rfl))
                exact absurd (hT.pure 9 _ e9 (fun g b hg => by cases hg; rw [e6, hu])) (by intro h; cases h)
              · have e9 := hwn 9 true rfl
                obtain ⟨u, e6⟩ := Option.ne_none_iff_exists'.1 (hT.order 9 6 (by rw [e9]; simp) (by kernel_rfl))
                have hu : u = .bool false := hT.pure 6 _ e6 (want_free (by kernel_rfl))
                exact absurd (hT.pure 9 _ e9 (fun g b hg => by cases hg; rw [e6, hu])) (by intro h; cases h)
              · have q59 : A'.eval (.tmp 59) = .bool false := (hsee 59 9 (by kernel_rfl) (by kernel_rfl)).2 (hwn.same (by kernel_rfl))
                exact wp_of_runL (rPick _ _ _ _ _ A' w (.tmp 59) (.tmp 69) (.const (Value.bool false)) _ _ q59 (by rw [if_neg (by decide)]; exact rfl)) ⟨_, rfl, rfl, LeavesE.plain (fun _ _ _ _ h hb => below_step h hb) (Below.refl _ _) (by decide)⟩
              · have q56 : A'.eval (.tmp 56) = .bool false := (hsee 56 6 (by kernel_rfl) (by kernel_rfl)).2 (want_free (by kernel_rfl))
                have e6 : e 6 = some (.bool false) := by rw [(hsee 56 6 (by kernel_rfl) (by kernel_rfl)).1, q56]
                have q70 : A'.eval (.tmp 70) = .bool false := (hsee 70 20 (by kernel_rfl) (by kernel_rfl)).2 (fun g b hg => by cases hg; exact e6)
                exact wp_of_runL (rPick _ _ _ _ _ A' w (.tmp 56) (.const (Value.bool true)) (.tmp 70) _ _ q56 (by rw [if_neg (by decide)]; exact q70)) ⟨_, rfl, rfl, LeavesE.plain (fun _ _ _ _ h hb => below_step h hb) (Below.refl _ _) (by decide)⟩
            intro e wz hT hall
            obtain ⟨v0, e0⟩ := hall 0 (by decide)
            obtain ⟨v1, e1⟩ := hall 1 (by decide)
            obtain ⟨v2, e2⟩ := hall 2 (by decide)
            obtain ⟨v3, e3⟩ := hall 3 (by decide)
            obtain ⟨v4, e4⟩ := hall 4 (by decide)
            obtain ⟨v5, e5⟩ := hall 5 (by decide)
            obtain ⟨v6, e6⟩ := hall 6 (by decide)
            obtain ⟨v7, e7⟩ := hall 7 (by decide)
            obtain ⟨v8, e8⟩ := hall 8 (by decide)
            obtain ⟨v9, e9⟩ := hall 9 (by decide)
            obtain ⟨v10, e10⟩ := hall 10 (by decide)
            obtain ⟨v11, e11⟩ := hall 11 (by decide)
            obtain ⟨v12, e12⟩ := hall 12 (by decide)
            obtain ⟨v13, e13⟩ := hall 13 (by decide)
            obtain ⟨v14, e14⟩ := hall 14 (by decide)
            obtain ⟨v15, e15⟩ := hall 15 (by decide)
            obtain ⟨v16, e16⟩ := hall 16 (by decide)
            obtain ⟨v17, e17⟩ := hall 17 (by decide)
            obtain ⟨v18, e18⟩ := hall 18 (by decide)
            obtain ⟨v19, e19⟩ := hall 19 (by decide)
            obtain ⟨v20, e20⟩ := hall 20 (by decide)
            obtain ⟨v21, e21⟩ := hall 21 (by decide)
            have h21' : v21 = .bool false := hT.pure 21 _ e21 (want_free (by kernel_rfl))
            subst h21'
            have hF0 := hT.fact 0 rfl (by simp) (by simp) (by kernel_rfl)
            try simp only [nm13zV] at hF0
            simp only [List.length_cons, List.length_nil, Nat.reduceAdd, fillTo, e0, e1, e2, e3, e4, e5, e6, e7, e8, e9, e10, e11, e12, e13, e14, e15, e16, e17, e18, e19, e20, e21, dstOf]
            clear e0 e1 e2 e3 e4 e5 e6 e7 e8 e9 e10 e11 e12 e13 e14 e15 e16 e17 e18 e19 e20 e21 hT hall
            go_simp
            obtain ⟨w13, rfl⟩ : ∃ w, w = wz := ⟨wz, rfl⟩
            have HB13 := Lib.hid (below_step HB12.out hF0)
            clear hF0
            go_wp2_with fail
            go_roundw
            case rel => exact ⟨1, by omega, by go_num, HPn.out, HQn.out, HB13⟩
            case measure => simp [intOf]; omega
          case neg =>
            obtain ⟨jj, Hj⟩ : ∃ jj, Hid (k = jj + 1) := ⟨k - 1, Lib.hid (by omega)⟩
            have hwj : IntKind.i64.wrap ((k : Int) - 1) = (jj : Int) := by rw [IntKind.wrap_i64]; have := Hj.out; omega
            have hjn : jj < n := by have := Hj.out; omega
            have Hk0 : Hid (decide ((0 : Int) < k) = true) := Lib.hid (decide_eq_true (by omega))
            obtain ⟨p, Hp⟩ : ∃ p : ByteArray, Hid (p = ⟨(NM.getD jj []).toArray⟩) := ⟨_, Lib.hid rfl⟩
            have HRj := Lib.hid (fun w hw => HCell.out jj hjn w (below_step HB12.out hw))
            rw [← Hp.out] at HRj
            have Hlt : Hid ((!Op.bytesLess p.toList s.toList) = false) := Lib.hid (by
              rw [Hp.out, Hs.out, ByteArray.toList_eq, ByteArray.toList_eq]
              have := HLess.out jj (by have := Hj.out; omega)
              rw [← Hj.out] at this
              show (!Op.bytesLess (NM.getD jj []) (NM.getD k [])) = false
              rw [this]; rfl)
            apply wp_region_monoG 97 (nm13 bn c n k jj s p) nm13_below (by kernel_rfl) (by kernel_rfl) rfl
            · intro i o g b ho hgd u w hu
              have hi : i < 22 := by have := (List.getElem?_eq_some_iff.1 ho).1; simpa using this
              have hi : i = 0 ∨ i = 1 ∨ i = 2 ∨ i = 3 ∨ i = 4 ∨ i = 5 ∨ i = 6 ∨ i = 7 ∨ i = 8 ∨ i = 9 ∨ i = 10 ∨ i = 11 ∨ i = 12 ∨ i = 13 ∨ i = 14 ∨ i = 15 ∨ i = 16 ∨ i = 17 ∨ i = 18 ∨ i = 19 ∨ i = 20 ∨ i = 21 := by omega
              rcases hi with rfl | rfl | rfl | rfl | rfl | rfl | rfl | rfl | rfl | rfl | rfl | rfl | rfl | rfl | rfl | rfl | rfl | rfl | rfl | rfl | rfl | rfl
              all_goals
                simp only [List.getElem?_cons_succ, List.getElem?_cons_zero, Option.some.injEq] at ho
                subst ho
                cases hgd
                all_goals exact hu
            · intro i o ho w A' hlow hsee haway
              have q4 : A'.eval (.tmp 4) = .slice (some ⟨bn, 0, none⟩) n c := (haway 4 (by kernel_rfl)).trans rfl
              have q7 : A'.eval (.tmp 7) = .int .i64 k := (haway 7 (by kernel_rfl)).trans rfl
              have hi : i < 22 := by have := (List.getElem?_eq_some_iff.1 ho).1; simpa using this
              have hi : i = 0 ∨ i = 1 ∨ i = 2 ∨ i = 3 ∨ i = 4 ∨ i = 5 ∨ i = 6 ∨ i = 7 ∨ i = 8 ∨ i = 9 ∨ i = 10 ∨ i = 11 ∨ i = 12 ∨ i = 13 ∨ i = 14 ∨ i = 15 ∨ i = 16 ∨ i = 17 ∨ i = 18 ∨ i = 19 ∨ i = 20 ∨ i = 21 := by omega
              rcases hi with rfl | rfl | rfl | rfl | rfl | rfl | rfl | rfl | rfl | rfl | rfl | rfl | rfl | rfl | rfl | rfl | rfl | rfl | rfl | rfl | rfl | rfl
              all_goals
                simp only [List.getElem?_cons_succ, List.getElem?_cons_zero, Option.some.injEq] at ho
                subst ho
              · exact wp_of_runL (rMove _ _ _ _ _ A' w (.tmp 4) _ q4) ⟨_, rfl, Below.refl _ _, rfl⟩
              · exact wp_of_runL (rMove _ _ _ _ _ A' w (.tmp 7) _ q7) ⟨_, rfl, Below.refl _ _, rfl⟩
              · have q50 : A'.eval (.tmp 50) = .slice (some ⟨bn, 0, none⟩) n c := hsee 50 0 (by kernel_rfl) (by kernel_rfl)
                have q51 : A'.eval (.tmp 51) = .int .i64 k := hsee 51 1 (by kernel_rfl) (by kernel_rfl)
                exact wp_of_runL (rIndex _ _ _ _ _ A' w 36 9 1 (.tmp 50) (.tmp 51) bn 0 n c k k Tryz.underlying36 (by kernel_rfl) (by omega) (by omega) q50 q51) ⟨_, rfl, Below.refl _ _, rfl⟩
              · have q52 : A'.eval (.tmp 52) = .pointer (some ⟨bn, 0 + k * 1, none⟩) := hsee 52 2 (by kernel_rfl) (by kernel_rfl)
                exact wp_of_runL (rLoad1 _ _ _ _ _ A' w 9 (.tmp 52) _ _ _ Tryz.underlying9 rfl (HRs.out w hlow) q52) ⟨_, rfl, Below.refl _ _, rfl⟩
              · have q53 : A'.eval (.tmp 53) = .string s := hsee 53 3 (by kernel_rfl) (by kernel_rfl)
                refine wp_of_callL _ _ _ _ _ _ _ 13 _ [.tmp 53] [.string s] (by simp [q53]) (by kernel_rfl) ((HNa.out w).mono ?_)
                rintro e w2 ⟨rfl, hb2⟩
                exact ⟨_, rfl, _, rfl, hb2, rfl⟩
              · have q54 : A'.eval (.tmp 54) = .bool true := hsee 54 4 (by kernel_rfl) (by kernel_rfl)
                exact wp_of_runL (rNot _ _ _ _ _ A' w _ (.tmp 54) _ q54) ⟨_, rfl, Below.refl _ _, rfl⟩
              · have q55 : A'.eval (.tmp 55) = .bool false := hsee 55 5 (by kernel_rfl) (by kernel_rfl)
                exact wp_of_runL (rMove _ _ _ _ _ A' w (.tmp 55) _ q55) ⟨_, rfl, Below.refl _ _, rfl⟩
              · exact wp_of_runL (rMove _ _ _ _ _ A' w (.tmp 7) _ q7) ⟨_, rfl, Below.refl _ _, rfl⟩
              · have q57 : A'.eval (.tmp 57) = .int .i64 k := hsee 57 7 (by kernel_rfl) (by kernel_rfl)
                exact wp_of_runL ((rGtrInt _ _ _ _ _ A' w _ _ (.tmp 57) _ k 0 q57 rfl).trans (by rw [Hk0.out])) ⟨_, rfl, Below.refl _ _, rfl⟩
              · have q58 : A'.eval (.tmp 58) = .bool true := hsee 58 8 (by kernel_rfl) (by kernel_rfl)
                exact wp_of_runL (rMove _ _ _ _ _ A' w (.tmp 58) _ q58) ⟨_, rfl, Below.refl _ _, rfl⟩
              · exact wp_of_runL (rMove _ _ _ _ _ A' w (.tmp 4) _ q4) ⟨_, rfl, Below.refl _ _, rfl⟩
              · exact wp_of_runL (rMove _ _ _ _ _ A' w (.tmp 7) _ q7) ⟨_, rfl, Below.refl _ _, rfl⟩
              · have q61 : A'.eval (.tmp 61) = .int .i64 k := hsee 61 11 (by kernel_rfl) (by kernel_rfl)
                exact wp_of_runL (rSubInt _ _ _ _ _ A' w _ _ (.tmp 61) _ k 1 jj q61 rfl hwj) ⟨_, rfl, Below.refl _ _, rfl⟩
              · have q60 : A'.eval (.tmp 60) = .slice (some ⟨bn, 0, none⟩) n c := hsee 60 10 (by kernel_rfl) (by kernel_rfl)
                have q62 : A'.eval (.tmp 62) = .int .i64 jj := hsee 62 12 (by kernel_rfl) (by kernel_rfl)
                exact wp_of_runL (rIndex _ _ _ _ _ A' w 36 9 1 (.tmp 60) (.tmp 62) bn 0 n c jj jj Tryz.underlying36 (by kernel_rfl) (by omega) (by omega) q60 q62) ⟨_, rfl, Below.refl _ _, rfl⟩
              · have q63 : A'.eval (.tmp 63) = .pointer (some ⟨bn, 0 + jj * 1, none⟩) := hsee 63 13 (by kernel_rfl) (by kernel_rfl)
                exact wp_of_runL (rLoad1 _ _ _ _ _ A' w 9 (.tmp 63) _ _ _ Tryz.underlying9 rfl (HRj.out w hlow) q63) ⟨_, rfl, Below.refl _ _, rfl⟩
              · exact wp_of_runL (rMove _ _ _ _ _ A' w (.tmp 4) _ q4) ⟨_, rfl, Below.refl _ _, rfl⟩
              · exact wp_of_runL (rMove _ _ _ _ _ A' w (.tmp 7) _ q7) ⟨_, rfl, Below.refl _ _, rfl⟩
              · have q65 : A'.eval (.tmp 65) = .slice (some ⟨bn, 0, none⟩) n c := hsee 65 15 (by kernel_rfl) (by kernel_rfl)
                have q66 : A'.eval (.tmp 66) = .int .i64 k := hsee 66 16 (by kernel_rfl) (by kernel_rfl)
                exact wp_of_runL (rIndex _ _ _ _ _ A' w 36 9 1 (.tmp 65) (.tmp 66) bn 0 n c k k Tryz.underlying36 (by kernel_rfl) (by omega) (by omega) q65 q66) ⟨_, rfl, Below.refl _ _, rfl⟩
              · have q67 : A'.eval (.tmp 67) = .pointer (some ⟨bn, 0 + k * 1, none⟩) := hsee 67 17 (by kernel_rfl) (by kernel_rfl)
                exact wp_of_runL (rLoad1 _ _ _ _ _ A' w 9 (.tmp 67) _ _ _ Tryz.underlying9 rfl (HRs.out w hlow) q67) ⟨_, rfl, Below.refl _ _, rfl⟩
              · have q64 : A'.eval (.tmp 64) = .string p := hsee 64 14 (by kernel_rfl) (by kernel_rfl)
                have q68 : A'.eval (.tmp 68) = .string s := hsee 68 18 (by kernel_rfl) (by kernel_rfl)
                exact wp_of_runL ((rGeqStr _ _ _ _ _ A' w _ _ (.tmp 64) (.tmp 68) p s q64 q68).trans (by rw [Hlt.out])) ⟨_, rfl, Below.refl _ _, rfl⟩
              · have q59 : A'.eval (.tmp 59) = .bool true := hsee 59 9 (by kernel_rfl) (by kernel_rfl)
                have q69 : A'.eval (.tmp 69) = .bool false := hsee 69 19 (by kernel_rfl) (by kernel_rfl)
                exact wp_of_runL (rPick _ _ _ _ _ A' w (.tmp 59) (.tmp 69) (.const (Value.bool false)) _ _ q59 (by rw [if_pos rfl]; exact q69)) ⟨_, rfl, Below.refl _ _, rfl⟩
              · have q56 : A'.eval (.tmp 56) = .bool false := hsee 56 6 (by kernel_rfl) (by kernel_rfl)
                have q70 : A'.eval (.tmp 70) = .bool false := hsee 70 20 (by kernel_rfl) (by kernel_rfl)
                exact wp_of_runL (rPick _ _ _ _ _ A' w (.tmp 56) (.const (Value.bool true)) (.tmp 70) _ _ q56 (by rw [if_neg (by decide)]; exact q70)) ⟨_, rfl, Below.refl _ _, rfl⟩
            intro e wz hlow hall
            obtain ⟨v0, e0, -⟩ := hall 0 (by decide)
            obtain ⟨v1, e1, -⟩ := hall 1 (by decide)
            obtain ⟨v2, e2, -⟩ := hall 2 (by decide)
            obtain ⟨v3, e3, -⟩ := hall 3 (by decide)
            obtain ⟨v4, e4, -⟩ := hall 4 (by decide)
            obtain ⟨v5, e5, -⟩ := hall 5 (by decide)
            obtain ⟨v6, e6, -⟩ := hall 6 (by decide)
            obtain ⟨v7, e7, -⟩ := hall 7 (by decide)
            obtain ⟨v8, e8, -⟩ := hall 8 (by decide)
            obtain ⟨v9, e9, -⟩ := hall 9 (by decide)
            obtain ⟨v10, e10, -⟩ := hall 10 (by decide)
            obtain ⟨v11, e11, -⟩ := hall 11 (by decide)
            obtain ⟨v12, e12, -⟩ := hall 12 (by decide)
            obtain ⟨v13, e13, -⟩ := hall 13 (by decide)
            obtain ⟨v14, e14, -⟩ := hall 14 (by decide)
            obtain ⟨v15, e15, -⟩ := hall 15 (by decide)
            obtain ⟨v16, e16, -⟩ := hall 16 (by decide)
            obtain ⟨v17, e17, -⟩ := hall 17 (by decide)
            obtain ⟨v18, e18, -⟩ := hall 18 (by decide)
            obtain ⟨v19, e19, -⟩ := hall 19 (by decide)
            obtain ⟨v20, e20, -⟩ := hall 20 (by decide)
            obtain ⟨v21, e21, h21⟩ := hall 21 (by decide)
            have h21' : v21 = .bool false := h21
            subst h21'
            clear h21
            have HLow := Lib.hid hlow
            simp only [List.length_cons, List.length_nil, Nat.reduceAdd, fillTo, e0, e1, e2, e3, e4, e5, e6, e7, e8, e9, e10, e11, e12, e13, e14, e15, e16, e17, e18, e19, e20, e21, dstOf]
            clear e0 e1 e2 e3 e4 e5 e6 e7 e8 e9 e10 e11 e12 e13 e14 e15 e16 e17 e18 e19 e20 e21 hlow hall
            go_simp
            obtain ⟨w13, rfl⟩ : ∃ w, w = wz := ⟨wz, rfl⟩
            have HB13 := Lib.hid (below_step HB12.out HLow.out)
            go_wp2_with fail
            go_roundw
            case rel => exact ⟨k + 1, by omega, by go_num, HPn.out, HQn.out, HB13⟩
            case measure => simp [intOf]; omega
        | false =>
          apply wp_region_monoG 97 (nm12 bn c n k N0 s it ci) nm12_below (by kernel_rfl) (by kernel_rfl) rfl
          · intro i o g b ho hgd u w hu
            have hi : i < 11 := by have := (List.getElem?_eq_some_iff.1 ho).1; simpa using this
            have hi : i = 0 ∨ i = 1 ∨ i = 2 ∨ i = 3 ∨ i = 4 ∨ i = 5 ∨ i = 6 ∨ i = 7 ∨ i = 8 ∨ i = 9 ∨ i = 10 := by omega
            rcases hi with rfl | rfl | rfl | rfl | rfl | rfl | rfl | rfl | rfl | rfl | rfl
            all_goals
              simp only [List.getElem?_cons_succ, List.getElem?_cons_zero, Option.some.injEq] at ho
              subst ho
              cases hgd
              all_goals exact hu
          · intro i o ho w A' hlow hsee haway
            have q1 : A'.eval (.tmp 1) = .pointer (some ⟨N0, 0, none⟩) := (haway 1 (by kernel_rfl)).trans rfl
            have q4 : A'.eval (.tmp 4) = .slice (some ⟨bn, 0, none⟩) n c := (haway 4 (by kernel_rfl)).trans rfl
            have q7 : A'.eval (.tmp 7) = .int .i64 k := (haway 7 (by kernel_rfl)).trans rfl
            have hi : i < 11 := by have := (List.getElem?_eq_some_iff.1 ho).1; simpa using this
            have hi : i = 0 ∨ i = 1 ∨ i = 2 ∨ i = 3 ∨ i = 4 ∨ i = 5 ∨ i = 6 ∨ i = 7 ∨ i = 8 ∨ i = 9 ∨ i = 10 := by omega
            rcases hi with rfl | rfl | rfl | rfl | rfl | rfl | rfl | rfl | rfl | rfl | rfl
            all_goals
              simp only [List.getElem?_cons_succ, List.getElem?_cons_zero, Option.some.injEq] at ho
              subst ho
            · have q6 : A'.eval (.tmp 6) = .bool false := (haway 6 (by kernel_rfl)).trans rfl
              exact wp_of_runL (rMove _ _ _ _ _ A' w (.tmp 6) _ q6) ⟨_, rfl, Below.refl _ _, rfl⟩
            · have q40 : A'.eval (.tmp 40) = .bool false := hsee 40 0 (by kernel_rfl) (by kernel_rfl)
              exact wp_of_runL (rMove _ _ _ _ _ A' w (.tmp 40) _ q40) ⟨_, rfl, Below.refl _ _, rfl⟩
            · exact wp_of_runL (rMove _ _ _ _ _ A' w (.tmp 4) _ q4) ⟨_, rfl, Below.refl _ _, rfl⟩
            · exact wp_of_runL (rMove _ _ _ _ _ A' w (.tmp 7) _ q7) ⟨_, rfl, Below.refl _ _, rfl⟩
            · have q42 : A'.eval (.tmp 42) = .slice (some ⟨bn, 0, none⟩) n c := hsee 42 2 (by kernel_rfl) (by kernel_rfl)
              have q43 : A'.eval (.tmp 43) = .int .i64 k := hsee 43 3 (by kernel_rfl) (by kernel_rfl)
              exact wp_of_runL (rIndex _ _ _ _ _ A' w 36 9 1 (.tmp 42) (.tmp 43) bn 0 n c k k Tryz.underlying36 (by kernel_rfl) (by omega) (by omega) q42 q43) ⟨_, rfl, Below.refl _ _, rfl⟩
            · have q44 : A'.eval (.tmp 44) = .pointer (some ⟨bn, 0 + k * 1, none⟩) := hsee 44 4 (by kernel_rfl) (by kernel_rfl)
              exact wp_of_runL (rLoad1 _ _ _ _ _ A' w 9 (.tmp 44) _ _ _ Tryz.underlying9 rfl (HRs.out w hlow) q44) ⟨_, rfl, Below.refl _ _, rfl⟩
            · exact wp_of_runL (rField _ _ _ _ _ A' w 27 (.tmp 1) 4 N0 0 4 _ _ Tryz.underlying27 rfl (by kernel_rfl) rfl (by kernel_rfl) q1) ⟨_, rfl, Below.refl _ _, rfl⟩
            · have q46 : A'.eval (.tmp 46) = .pointer (some ⟨N0, 4, none⟩) := hsee 46 6 (by kernel_rfl) (by kernel_rfl)
              exact wp_of_runL (rLoad1 _ _ _ _ _ A' w 9 (.tmp 46) _ _ _ Tryz.underlying9 rfl (HRi.out w hlow) q46) ⟨_, rfl, Below.refl _ _, rfl⟩
            · have q45 : A'.eval (.tmp 45) = .string s := hsee 45 5 (by kernel_rfl) (by kernel_rfl)
              have q47 : A'.eval (.tmp 47) = .string it := hsee 47 7 (by kernel_rfl) (by kernel_rfl)
              exact wp_of_runL ((rEqlStr _ _ _ _ _ A' w _ _ (.tmp 45) (.tmp 47) s it q45 q47).trans (by rw [Hc.out])) ⟨_, rfl, Below.refl _ _, rfl⟩
            · have q41 : A'.eval (.tmp 41) = .bool false := hsee 41 1 (by kernel_rfl) (by kernel_rfl)
              have q48 : A'.eval (.tmp 48) = .bool ci := hsee 48 8 (by kernel_rfl) (by kernel_rfl)
              exact wp_of_runL (rPick _ _ _ _ _ A' w (.tmp 41) (.const (Value.bool true)) (.tmp 48) _ _ q41 (by rw [if_neg (by decide)]; exact q48)) ⟨_, rfl, Below.refl _ _, rfl⟩
            · have q49 : A'.eval (.tmp 49) = .bool ci := hsee 49 9 (by kernel_rfl) (by kernel_rfl)
              exact wp_of_runL (rAssign _ _ _ _ _ A' w (.tmp 49) _ q49) ⟨_, rfl, Below.refl _ _, rfl⟩
          intro e wz hlow hall
          obtain ⟨v0, e0, -⟩ := hall 0 (by decide)
          obtain ⟨v1, e1, -⟩ := hall 1 (by decide)
          obtain ⟨v2, e2, -⟩ := hall 2 (by decide)
          obtain ⟨v3, e3, -⟩ := hall 3 (by decide)
          obtain ⟨v4, e4, -⟩ := hall 4 (by decide)
          obtain ⟨v5, e5, -⟩ := hall 5 (by decide)
          obtain ⟨v6, e6, -⟩ := hall 6 (by decide)
          obtain ⟨v7, e7, -⟩ := hall 7 (by decide)
          obtain ⟨v8, e8, -⟩ := hall 8 (by decide)
          obtain ⟨v9, e9, -⟩ := hall 9 (by decide)
          obtain ⟨v10, e10, h10⟩ := hall 10 (by decide)
          have h10' : v10 = .bool ci := h10
          subst h10'
          clear h10
          have HLow := Lib.hid hlow
          simp only [List.length_cons, List.length_nil, Nat.reduceAdd, fillTo, e0, e1, e2, e3, e4, e5, e6, e7, e8, e9, e10, dstOf]
          clear e0 e1 e2 e3 e4 e5 e6 e7 e8 e9 e10 hlow hall
          go_simp
          obtain ⟨w12, rfl⟩ : ∃ w, w = wz := ⟨wz, rfl⟩
          have HB12 := Lib.hid (below_step HB11.out HLow.out)
          clear HLow HRs
          have HRs := Lib.hid (fun w hw => HCell.out k hkn w (below_step HB12.out hw))
          rw [← Hs.out] at HRs
          have HQn : Hid (Value.bool ci = .bool (qk (k + 1))) := Lib.hid (by rw [HQs.out]; rfl)
          go_wp2_with fail
          by_cases hk0 : k = 0
          case pos =>
            subst hk0
            apply wp_region_entE 97 [([], [])] ((fun _ _ w => Below w12.heap.size w12 w)) (nm13zV bn c n s) (fun _ _ _ _ _ _ _ _ h => h) (by kernel_rfl) (by kernel_rfl) rfl (fun _ _ _ => (Below.refl _ _).drew)
            · intro i o ho e w A' hT hei hwn hsee haway
              have q4 : A'.eval (.tmp 4) = .slice (some ⟨bn, 0, none⟩) n c := (haway 4 (by kernel_rfl)).trans rfl
              have q7 : A'.eval (.tmp 7) = .int .i64 0 := (haway 7 (by kernel_rfl)).trans rfl
              have hlow : Below w12.heap.size w12 w := hT.fact 0 rfl (by simp) (by simp) rfl
              have hi : i < 22 := by have := (List.getElem?_eq_some_iff.1 ho).1; simpa using this
              have hi : i = 0 ∨ i = 1 ∨ i = 2 ∨ i = 3 ∨ i = 4 ∨ i = 5 ∨ i = 6 ∨ i = 7 ∨ i = 8 ∨ i = 9 ∨ i = 10 ∨ i = 11 ∨ i = 12 ∨ i = 13 ∨ i = 14 ∨ i = 15 ∨ i = 16 ∨ i = 17 ∨ i = 18 ∨ i = 19 ∨ i = 20 ∨ i = 21 := by omega
              rcases hi with rfl | rfl | rfl | rfl | rfl | rfl | rfl | rfl | rfl | rfl | rfl | rfl | rfl | rfl | rfl | rfl | rfl | rfl | rfl | rfl | rfl | rfl
              all_goals
                simp only [List.getElem?_cons_succ, List.getElem?_cons_zero, Option.some.injEq] at ho
                subst ho
              · exact wp_of_runL (rMove _ _ _ _ _ A' w (.tmp 4) _ q4) ⟨_, rfl, rfl, LeavesE.plain (fun _ _ _ _ h hb => below_step h hb) (Below.refl _ _) (by decide)⟩
              · exact wp_of_runL (rMove _ _ _ _ _ A' w (.tmp 7) _ q7) ⟨_, rfl, rfl, LeavesE.plain (fun _ _ _ _ h hb => below_step h hb) (Below.refl _ _) (by decide)⟩
              · have q50 : A'.eval (.tmp 50) = .slice (some ⟨bn, 0, none⟩) n c := (hsee 50 0 (by kernel_rfl) (by kernel_rfl)).2 (want_free (by kernel_rfl))
                have q51 : A'.eval (.tmp 51) = .int .i64 0 := (hsee 51 1 (by kernel_rfl) (by kernel_rfl)).2 (want_free (by kernel_rfl))
                exact wp_of_runL (rIndex _ _ _ _ _ A' w 36 9 1 (.tmp 50) (.tmp 51) bn 0 n c 0 0 Tryz.underlying36 (by kernel_rfl) (by omega) (by omega) q50 q51) ⟨_, rfl, rfl, LeavesE.plain (fun _ _ _ _ h hb => below_step h hb) (Below.refl _ _) (by decide)⟩
              · have q52 : A'.eval (.tmp 52) = .pointer (some ⟨bn, 0 + 0 * 1, none⟩) := (hsee 52 2 (by kernel_rfl) (by kernel_rfl)).2 (want_free (by kernel_rfl))
                exact wp_of_runL (rLoad1 _ _ _ _ _ A' w 9 (.tmp 52) _ _ _ Tryz.underlying9 rfl (HRs.out w hlow) q52) ⟨_, rfl, rfl, LeavesE.plain (fun _ _ _ _ h hb => below_step h hb) (Below.refl _ _) (by decide)⟩
              · have q53 : A'.eval (.tmp 53) = .string s := (hsee 53 3 (by kernel_rfl) (by kernel_rfl)).2 (want_free (by kernel_rfl))
                refine wp_of_callL _ _ _ _ _ _ _ 13 _ [.tmp 53] [.string s] (by simp [q53]) (by kernel_rfl) ((HNa.out w).mono ?_)
                rintro e' w2 ⟨rfl, hb2⟩
                exact ⟨_, rfl, _, rfl, rfl, LeavesE.plain (fun _ _ _ _ h hb => below_step h hb) hb2 (by decide)⟩
              · have q54 : A'.eval (.tmp 54) = .bool true := (hsee 54 4 (by kernel_rfl) (by kernel_rfl)).2 (want_free (by kernel_rfl))
                exact wp_of_runL (rNot _ _ _ _ _ A' w _ (.tmp 54) _ q54) ⟨_, rfl, rfl, LeavesE.plain (fun _ _ _ _ h hb => below_step h hb) (Below.refl _ _) (by decide)⟩
              · have q55 : A'.eval (.tmp 55) = .bool false := (hsee 55 5 (by kernel_rfl) (by kernel_rfl)).2 (want_free (by kernel_rfl))
                exact wp_of_runL (rMove _ _ _ _ _ A' w (.tmp 55) _ q55) ⟨_, rfl, rfl, LeavesE.plain (fun _ _ _ _ h hb => below_step h hb) (Below.refl _ _) (by decide)⟩
              · exact wp_of_runL (rMove _ _ _ _ _ A' w (.tmp 7) _ q7) ⟨_, rfl, rfl, LeavesE.plain (fun _ _ _ _ h hb => below_step h hb) (Below.refl _ _) (by decide)⟩
              · have q57 : A'.eval (.tmp 57) = .int .i64 0 := (hsee 57 7 (by kernel_rfl) (by kernel_rfl)).2 (hwn.same (by kernel_rfl))
                exact wp_of_runL (rGtrInt _ _ _ _ _ A' w _ _ (.tmp 57) _ 0 0 q57 rfl) ⟨_, rfl, rfl, LeavesE.plain (fun _ _ _ _ h hb => below_step h hb) (Below.refl _ _) (by decide)⟩
              · have q58 : A'.eval (.tmp 58) = .bool false := (hsee 58 8 (by kernel_rfl) (by kernel_rfl)).2 (hwn.same (by kernel_rfl))
                exact wp_of_runL (rMove _ _ _ _ _ A' w (.tmp 58) _ q58) ⟨_, rfl, rfl, LeavesE.plain (fun _ _ _ _ h hb => below_step h hb) (Below.refl _ _) (by decide)⟩
              · have e9 := hwn 9 true rfl
                obtain ⟨u, e6⟩ := Option.ne_none_iff_exists'.1 (hT.order 9 6 (by rw [e9]; simp) (by kernel_rfl))
                have hu : u = .bool false := hT.pure 6 _ e6 (want_free (by kernel_rfl))
                exact absurd (hT.pure 9 _ e9 (fun g b hg => by cases hg; rw [e6, hu])) (by intro h; cases h)
              · have e9 := hwn 9 true rfl
                obtain ⟨u, e6⟩ := Option.ne_none_iff_exists'.1 (hT.order 9 6 (by rw [e9]; simp) (by kernel_rfl))
                have hu : u = .bool false := hT.pure 6 _ e6 (want_free (by kernel_rfl))
                exact absurd (hT.pure 9 _ e9 (fun g b hg => by cases hg; rw [e6, hu])) (by intro h; cases h)
              · have e9 := hwn 9 true rfl
                obtain ⟨u, e6⟩ := Option.ne_none_iff_exists'.1 (hT.order 9 6 (by rw [e9]; simp) (by kernel_rfl))
                have hu : u = .bool false := hT.pure 6 _ e6 (want_free (by kernel_rfl))
                exact absurd (hT.pure 9 _ e9 (fun g b hg => by cases hg; rw [e6, hu])) (by intro h; cases h)
              · have e9 := hwn 9 true rfl
                obtain ⟨u, e6⟩ := Option.ne_none_iff_exists'.1 (hT.order 9 6 (by rw [e9]; simp) (by kernel_rfl))
                have hu : u = .bool false := hT.pure 6 _ e6 (want_free (by kernel_rfl))
                exact absurd (hT.pure 9 _ e9 (fun g b hg => by cases hg; rw [e6, hu])) (by intro h; cases h)
              · have e9 := hwn 9 true rfl
                obtain ⟨u, e6⟩ := Option.ne_none_iff_exists'.1 (hT.order 9 6 (by rw [e9]; simp) (by kernel_rfl))
                have hu : u = .bool false := hT.pure 6 _ e6 (want_free (by kernel_rfl))
                exact absurd (hT.pure 9 _ e9 (fun g b hg => by cases hg; rw [e6, hu])) (by intro h; cases h)
              · have e9 := hwn 9 true rfl
                obtain ⟨u, e6⟩ := Option.ne_none_iff_exists'.1 (hT.order 9 6 (by rw [e9]; simp) (by kernel_rfl))
                have hu : u = .bool false := hT.pure 6 _ e6 (want_free (by kernel_rfl))
                exact absurd (hT.pure 9 _ e9 (fun g b hg => by cases hg; rw [e6, hu])) (by intro h; cases h)
              · have e9 := hwn 9 true rfl
                obtain ⟨u, e6⟩ := Option.ne_none_iff_exists'.1 (hT.order 9 6 (by rw [e9]; simp) (by kernel_rfl))
                have hu : u = .bool false := hT.pure 6 _ e6 (want_free (by kernel_rfl))
                exact absurd (hT.pure 9 _ e9 (fun g b hg => by cases hg; rw [e6, hu])) (by intro h; cases h)
              · have e9 := hwn 9 true rfl
                obtain ⟨u, e6⟩ := Option.ne_none_iff_exists'.1 (hT.order 9 6 (by rw [e9]; simp) (by kernel_rfl))
                have hu : u = .bool false := hT.pure 6 _ e6 (want_free (by kernel_rfl))
                exact absurd (hT.pure 9 _ e9 (fun g b hg => by cases hg; rw [e6, hu])) (by intro h; cases h)
              · have e9 := hwn 9 true rfl
                obtain ⟨u, e6⟩ := Option.ne_none_iff_exists'.1 (hT.order 9 6 (by rw [e9]; simp) (by kernel_rfl))
                have hu : u = .bool false := hT.pure 6 _ e6 (want_free (by kernel_rfl))
                exact absurd (hT.pure 9 _ e9 (fun g b hg => by cases hg; rw [e6, hu])) (by intro h; cases h)
              · have e9 := hwn 9 true rfl
                obtain ⟨u, e6⟩ := Option.ne_none_iff_exists'.1 (hT.order 9 6 (by rw [e9]; simp) (by kernel_rfl))
                have hu : u = .bool false := hT.pure 6 _ e6 (want_free (by kernel_rfl))
                exact absurd (hT.pure 9 _ e9 (fun g b hg => by cases hg; rw [e6, hu])) (by intro h; cases h)
              · have q59 : A'.eval (.tmp 59) = .bool false := (hsee 59 9 (by kernel_rfl) (by kernel_rfl)).2 (hwn.same (by kernel_rfl))
                exact wp_of_runL (rPick _ _ _ _ _ A' w (.tmp 59) (.tmp 69) (.const (Value.bool false)) _ _ q59 (by rw [if_neg (by decide)]; exact rfl)) ⟨_, rfl, rfl, LeavesE.plain (fun _ _ _ _ h hb => below_step h hb) (Below.refl _ _) (by decide)⟩
              · have q56 : A'.eval (.tmp 56) = .bool false := (hsee 56 6 (by kernel_rfl) (by kernel_rfl)).2 (want_free (by kernel_rfl))
                have e6 : e 6 = some (.bool false) := by rw [(hsee 56 6 (by kernel_rfl) (by kernel_rfl)).1, q56]
                have q70 : A'.eval (.tmp 70) = .bool false := (hsee 70 20 (by kernel_rfl) (by kernel_rfl)).2 (fun g b hg => by cases hg; exact e6)
                exact wp_of_runL (rPick _ _ _ _ _ A' w (.tmp 56) (.const (Value.bool true)) (.tmp 70) _ _ q56 (by rw [if_neg (by decide)]; exact q70)) ⟨_, rfl, rfl, LeavesE.plain (fun _ _ _ _ h hb => below_step h hb) (Below.refl _ _) (by decide)⟩
            intro e wz hT hall
            obtain ⟨v0, e0⟩ := hall 0 (by decide)
            obtain ⟨v1, e1⟩ := hall 1 (by decide)
            obtain ⟨v2, e2⟩ := hall 2 (by decide)
            obtain ⟨v3, e3⟩ := hall 3 (by decide)
            obtain ⟨v4, e4⟩ := hall 4 (by decide)
            obtain ⟨v5, e5⟩ := hall 5 (by decide)
            obtain ⟨v6, e6⟩ := hall 6 (by decide)
            obtain ⟨v7, e7⟩ := hall 7 (by decide)
            obtain ⟨v8, e8⟩ := hall 8 (by decide)
            obtain ⟨v9, e9⟩ := hall 9 (by decide)
            obtain ⟨v10, e10⟩ := hall 10 (by decide)
            obtain ⟨v11, e11⟩ := hall 11 (by decide)
            obtain ⟨v12, e12⟩ := hall 12 (by decide)
            obtain ⟨v13, e13⟩ := hall 13 (by decide)
            obtain ⟨v14, e14⟩ := hall 14 (by decide)
            obtain ⟨v15, e15⟩ := hall 15 (by decide)
            obtain ⟨v16, e16⟩ := hall 16 (by decide)
            obtain ⟨v17, e17⟩ := hall 17 (by decide)
            obtain ⟨v18, e18⟩ := hall 18 (by decide)
            obtain ⟨v19, e19⟩ := hall 19 (by decide)
            obtain ⟨v20, e20⟩ := hall 20 (by decide)
            obtain ⟨v21, e21⟩ := hall 21 (by decide)
            have h21' : v21 = .bool false := hT.pure 21 _ e21 (want_free (by kernel_rfl))
            subst h21'
            have hF0 := hT.fact 0 rfl (by simp) (by simp) (by kernel_rfl)
            try simp only [nm13zV] at hF0
            simp only [List.length_cons, List.length_nil, Nat.reduceAdd, fillTo, e0, e1, e2, e3, e4, e5, e6, e7, e8, e9, e10, e11, e12, e13, e14, e15, e16, e17, e18, e19, e20, e21, dstOf]
            clear e0 e1 e2 e3 e4 e5 e6 e7 e8 e9 e10 e11 e12 e13 e14 e15 e16 e17 e18 e19 e20 e21 hT hall
            go_simp
            obtain ⟨w13, rfl⟩ : ∃ w, w = wz := ⟨wz, rfl⟩
            have HB13 := Lib.hid (below_step HB12.out hF0)
            clear hF0
            go_wp2_with fail
            go_roundw
            case rel => exact ⟨1, by omega, by go_num, HPn.out, HQn.out, HB13⟩
            case measure => simp [intOf]; omega
          case neg =>
            obtain ⟨jj, Hj⟩ : ∃ jj, Hid (k = jj + 1) := ⟨k - 1, Lib.hid (by omega)⟩
            have hwj : IntKind.i64.wrap ((k : Int) - 1) = (jj : Int) := by rw [IntKind.wrap_i64]; have := Hj.out; omega
            have hjn : jj < n := by have := Hj.out; omega
            have Hk0 : Hid (decide ((0 : Int) < k) = true) := Lib.hid (decide_eq_true (by omega))
            obtain ⟨p, Hp⟩ : ∃ p : ByteArray, Hid (p = ⟨(NM.getD jj []).toArray⟩) := ⟨_, Lib.hid rfl⟩
            have HRj := Lib.hid (fun w hw => HCell.out jj hjn w (below_step HB12.out hw))
            rw [← Hp.out] at HRj
            have Hlt : Hid ((!Op.bytesLess p.toList s.toList) = false) := Lib.hid (by
              rw [Hp.out, Hs.out, ByteArray.toList_eq, ByteArray.toList_eq]
              have := HLess.out jj (by have := Hj.out; omega)
              rw [← Hj.out] at this
              show (!Op.bytesLess (NM.getD jj []) (NM.getD k [])) = false
              rw [this]; rfl)
            apply wp_region_monoG 97 (nm13 bn c n k jj s p) nm13_below (by kernel_rfl) (by kernel_rfl) rfl
            · intro i o g b ho hgd u w hu
              have hi : i < 22 := by have := (List.getElem?_eq_some_iff.1 ho).1; simpa using this
              have hi : i = 0 ∨ i = 1 ∨ i = 2 ∨ i = 3 ∨ i = 4 ∨ i = 5 ∨ i = 6 ∨ i = 7 ∨ i = 8 ∨ i = 9 ∨ i = 10 ∨ i = 11 ∨ i = 12 ∨ i = 13 ∨ i = 14 ∨ i = 15 ∨ i = 16 ∨ i = 17 ∨ i = 18 ∨ i = 19 ∨ i = 20 ∨ i = 21 := by omega
              rcases hi with rfl | rfl | rfl | rfl | rfl | rfl | rfl | rfl | rfl | rfl | rfl | rfl | rfl | rfl | rfl | rfl | rfl | rfl | rfl | rfl | rfl | rfl
              all_goals
                simp only [List.getElem?_cons_succ, List.getElem?_cons_zero, Option.some.injEq] at ho
                subst ho
                cases hgd
                all_goals exact hu
            · intro i o ho w A' hlow hsee haway
              have q4 : A'.eval (.tmp 4) = .slice (some ⟨bn, 0, none⟩) n c := (haway 4 (by kernel_rfl)).trans rfl
              have q7 : A'.eval (.tmp 7) = .int .i64 k := (haway 7 (by kernel_rfl)).trans rfl
              have hi : i < 22 := by have := (List.getElem?_eq_some_iff.1 ho).1; simpa using this
              have hi : i = 0 ∨ i = 1 ∨ i = 2 ∨ i = 3 ∨ i = 4 ∨ i = 5 ∨ i = 6 ∨ i = 7 ∨ i = 8 ∨ i = 9 ∨ i = 10 ∨ i = 11 ∨ i = 12 ∨ i = 13 ∨ i = 14 ∨ i = 15 ∨ i = 16 ∨ i = 17 ∨ i = 18 ∨ i = 19 ∨ i = 20 ∨ i = 21 := by omega
              rcases hi with rfl | rfl | rfl | rfl | rfl | rfl | rfl | rfl | rfl | rfl | rfl | rfl | rfl | rfl | rfl | rfl | rfl | rfl | rfl | rfl | rfl | rfl
              all_goals
                simp only [List.getElem?_cons_succ, List.getElem?_cons_zero, Option.some.injEq] at ho
                subst ho
              · exact wp_of_runL (rMove _ _ _ _ _ A' w (.tmp 4) _ q4) ⟨_, rfl, Below.refl _ _, rfl⟩
              · exact wp_of_runL (rMove _ _ _ _ _ A' w (.tmp 7) _ q7) ⟨_, rfl, Below.refl _ _, rfl⟩
              · have q50 : A'.eval (.tmp 50) = .slice (some ⟨bn, 0, none⟩) n c := hsee 50 0 (by kernel_rfl) (by kernel_rfl)
                have q51 : A'.eval (.tmp 51) = .int .i64 k := hsee 51 1 (by kernel_rfl) (by kernel_rfl)
                exact wp_of_runL (rIndex _ _ _ _ _ A' w 36 9 1 (.tmp 50) (.tmp 51) bn 0 n c k k Tryz.underlying36 (by kernel_rfl) (by omega) (by omega) q50 q51) ⟨_, rfl, Below.refl _ _, rfl⟩
              · have q52 : A'.eval (.tmp 52) = .pointer (some ⟨bn, 0 + k * 1, none⟩) := hsee 52 2 (by kernel_rfl) (by kernel_rfl)
                exact wp_of_runL (rLoad1 _ _ _ _ _ A' w 9 (.tmp 52) _ _ _ Tryz.underlying9 rfl (HRs.out w hlow) q52) ⟨_, rfl, Below.refl _ _, rfl⟩
              · have q53 : A'.eval (.tmp 53) = .string s := hsee 53 3 (by kernel_rfl) (by kernel_rfl)
                refine wp_of_callL _ _ _ _ _ _ _ 13 _ [.tmp 53] [.string s] (by simp [q53]) (by kernel_rfl) ((HNa.out w).mono ?_)
                rintro e w2 ⟨rfl, hb2⟩
                exact ⟨_, rfl, _, rfl, hb2, rfl⟩
              · have q54 : A'.eval (.tmp 54) = .bool true := hsee 54 4 (by kernel_rfl) (by kernel_rfl)
                exact wp_of_runL (rNot _ _ _ _ _ A' w _ (.tmp 54) _ q54) ⟨_, rfl, Below.refl _ _, rfl⟩
              · have q55 : A'.eval (.tmp 55) = .bool false := hsee 55 5 (by kernel_rfl) (by kernel_rfl)
                exact wp_of_runL (rMove _ _ _ _ _ A' w (.tmp 55) _ q55) ⟨_, rfl, Below.refl _ _, rfl⟩
              · exact wp_of_runL (rMove _ _ _ _ _ A' w (.tmp 7) _ q7) ⟨_, rfl, Below.refl _ _, rfl⟩
              · have q57 : A'.eval (.tmp 57) = .int .i64 k := hsee 57 7 (by kernel_rfl) (by kernel_rfl)
                exact wp_of_runL ((rGtrInt _ _ _ _ _ A' w _ _ (.tmp 57) _ k 0 q57 rfl).trans (by rw [Hk0.out])) ⟨_, rfl, Below.refl _ _, rfl⟩
              · have q58 : A'.eval (.tmp 58) = .bool true := hsee 58 8 (by kernel_rfl) (by kernel_rfl)
                exact wp_of_runL (rMove _ _ _ _ _ A' w (.tmp 58) _ q58) ⟨_, rfl, Below.refl _ _, rfl⟩
              · exact wp_of_runL (rMove _ _ _ _ _ A' w (.tmp 4) _ q4) ⟨_, rfl, Below.refl _ _, rfl⟩
              · exact wp_of_runL (rMove _ _ _ _ _ A' w (.tmp 7) _ q7) ⟨_, rfl, Below.refl _ _, rfl⟩
              · have q61 : A'.eval (.tmp 61) = .int .i64 k := hsee 61 11 (by kernel_rfl) (by kernel_rfl)
                exact wp_of_runL (rSubInt _ _ _ _ _ A' w _ _ (.tmp 61) _ k 1 jj q61 rfl hwj) ⟨_, rfl, Below.refl _ _, rfl⟩
              · have q60 : A'.eval (.tmp 60) = .slice (some ⟨bn, 0, none⟩) n c := hsee 60 10 (by kernel_rfl) (by kernel_rfl)
                have q62 : A'.eval (.tmp 62) = .int .i64 jj := hsee 62 12 (by kernel_rfl) (by kernel_rfl)
                exact wp_of_runL (rIndex _ _ _ _ _ A' w 36 9 1 (.tmp 60) (.tmp 62) bn 0 n c jj jj Tryz.underlying36 (by kernel_rfl) (by omega) (by omega) q60 q62) ⟨_, rfl, Below.refl _ _, rfl⟩
              · have q63 : A'.eval (.tmp 63) = .pointer (some ⟨bn, 0 + jj * 1, none⟩) := hsee 63 13 (by kernel_rfl) (by kernel_rfl)
                exact wp_of_runL (rLoad1 _ _ _ _ _ A' w 9 (.tmp 63) _ _ _ Tryz.underlying9 rfl (HRj.out w hlow) q63) ⟨_, rfl, Below.refl _ _, rfl⟩
              · exact wp_of_runL (rMove _ _ _ _ _ A' w (.tmp 4) _ q4) ⟨_, rfl, Below.refl _ _, rfl⟩
              · exact wp_of_runL (rMove _ _ _ _ _ A' w (.tmp 7) _ q7) ⟨_, rfl, Below.refl _ _, rfl⟩
              · have q65 : A'.eval (.tmp 65) = .slice (some ⟨bn, 0, none⟩) n c := hsee 65 15 (by kernel_rfl) (by kernel_rfl)
                have q66 : A'.eval (.tmp 66) = .int .i64 k := hsee 66 16 (by kernel_rfl) (by kernel_rfl)
                exact wp_of_runL (rIndex _ _ _ _ _ A' w 36 9 1 (.tmp 65) (.tmp 66) bn 0 n c k k Tryz.underlying36 (by kernel_rfl) (by omega) (by omega) q65 q66) ⟨_, rfl, Below.refl _ _, rfl⟩
              · have q67 : A'.eval (.tmp 67) = .pointer (some ⟨bn, 0 + k * 1, none⟩) := hsee 67 17 (by kernel_rfl) (by kernel_rfl)
                exact wp_of_runL (rLoad1 _ _ _ _ _ A' w 9 (.tmp 67) _ _ _ Tryz.underlying9 rfl (HRs.out w hlow) q67) ⟨_, rfl, Below.refl _ _, rfl⟩
              · have q64 : A'.eval (.tmp 64) = .string p := hsee 64 14 (by kernel_rfl) (by kernel_rfl)
                have q68 : A'.eval (.tmp 68) = .string s := hsee 68 18 (by kernel_rfl) (by kernel_rfl)
                exact wp_of_runL ((rGeqStr _ _ _ _ _ A' w _ _ (.tmp 64) (.tmp 68) p s q64 q68).trans (by rw [Hlt.out])) ⟨_, rfl, Below.refl _ _, rfl⟩
              · have q59 : A'.eval (.tmp 59) = .bool true := hsee 59 9 (by kernel_rfl) (by kernel_rfl)
                have q69 : A'.eval (.tmp 69) = .bool false := hsee 69 19 (by kernel_rfl) (by kernel_rfl)
                exact wp_of_runL (rPick _ _ _ _ _ A' w (.tmp 59) (.tmp 69) (.const (Value.bool false)) _ _ q59 (by rw [if_pos rfl]; exact q69)) ⟨_, rfl, Below.refl _ _, rfl⟩
              · have q56 : A'.eval (.tmp 56) = .bool false := hsee 56 6 (by kernel_rfl) (by kernel_rfl)
                have q70 : A'.eval (.tmp 70) = .bool false := hsee 70 20 (by kernel_rfl) (by kernel_rfl)
                exact wp_of_runL (rPick _ _ _ _ _ A' w (.tmp 56) (.const (Value.bool true)) (.tmp 70) _ _ q56 (by rw [if_neg (by decide)]; exact q70)) ⟨_, rfl, Below.refl _ _, rfl⟩
            intro e wz hlow hall
            obtain ⟨v0, e0, -⟩ := hall 0 (by decide)
            obtain ⟨v1, e1, -⟩ := hall 1 (by decide)
            obtain ⟨v2, e2, -⟩ := hall 2 (by decide)
            obtain ⟨v3, e3, -⟩ := hall 3 (by decide)
            obtain ⟨v4, e4, -⟩ := hall 4 (by decide)
            obtain ⟨v5, e5, -⟩ := hall 5 (by decide)
            obtain ⟨v6, e6, -⟩ := hall 6 (by decide)
            obtain ⟨v7, e7, -⟩ := hall 7 (by decide)
            obtain ⟨v8, e8, -⟩ := hall 8 (by decide)
            obtain ⟨v9, e9, -⟩ := hall 9 (by decide)
            obtain ⟨v10, e10, -⟩ := hall 10 (by decide)
            obtain ⟨v11, e11, -⟩ := hall 11 (by decide)
            obtain ⟨v12, e12, -⟩ := hall 12 (by decide)
            obtain ⟨v13, e13, -⟩ := hall 13 (by decide)
            obtain ⟨v14, e14, -⟩ := hall 14 (by decide)
            obtain ⟨v15, e15, -⟩ := hall 15 (by decide)
            obtain ⟨v16, e16, -⟩ := hall 16 (by decide)
            obtain ⟨v17, e17, -⟩ := hall 17 (by decide)
            obtain ⟨v18, e18, -⟩ := hall 18 (by decide)
            obtain ⟨v19, e19, -⟩ := hall 19 (by decide)
            obtain ⟨v20, e20, -⟩ := hall 20 (by decide)
            obtain ⟨v21, e21, h21⟩ := hall 21 (by decide)
            have h21' : v21 = .bool false := h21
            subst h21'
            clear h21
            have HLow := Lib.hid hlow
            simp only [List.length_cons, List.length_nil, Nat.reduceAdd, fillTo, e0, e1, e2, e3, e4, e5, e6, e7, e8, e9, e10, e11, e12, e13, e14, e15, e16, e17, e18, e19, e20, e21, dstOf]
            clear e0 e1 e2 e3 e4 e5 e6 e7 e8 e9 e10 e11 e12 e13 e14 e15 e16 e17 e18 e19 e20 e21 hlow hall
            go_simp
            obtain ⟨w13, rfl⟩ : ∃ w, w = wz := ⟨wz, rfl⟩
            have HB13 := Lib.hid (below_step HB12.out HLow.out)
            go_wp2_with fail
            go_roundw
            case rel => exact ⟨k + 1, by omega, by go_num, HPn.out, HQn.out, HB13⟩
            case measure => simp [intOf]; omega
    · obtain rfl : k = n := by omega
      have hd2 : decide ((k : Int) < k) = false := decide_eq_false (by omega)
      have HBr := Lib.hid (below_step HB5.out HR.out)
      have HW6 := Lib.hid (whole_belowM HW5.out HR.out)
      obtain ⟨o, Ho⟩ : ∃ z, Hid (z = x.op) := ⟨_, Lib.hid rfl⟩
      have c0 : wr.cell? ⟨N0, 0, none⟩ = some (.int .i64 o) := by rw [Ho.out]; exact HW6.out.cell 0
      have hall : NM.take k = NM := List.take_of_length_le (by rw [← Hn.out]; exact Nat.le_refl _)
      obtain ⟨p0, Hp0⟩ : ∃ b, Hid (b = pk k) := ⟨_, Lib.hid rfl⟩
      obtain ⟨q0, Hq0⟩ : ∃ b, Hid (b = qk k) := ⟨_, Lib.hid rfl⟩
      rw [← Hp0.out, ← Hq0.out]
      have HPe : Hid (p0 = decide (bts pt ∈ NM)) := Lib.hid (by rw [Hp0.out, Hpk.out, hall])
      have HQe : Hid (q0 = decide (bts it ∈ NM)) := Lib.hid (by rw [Hq0.out, Hqk.out, hall])
      clear hall
      rcases HSa.out with ⟨h1, h2, h3⟩ | ⟨h1, a, d, h2, -, -, h3⟩
      · obtain rfl : p0 = true := by rw [HPe.out, Hpt.out, h2]; simp
        obtain rfl : q0 = false := by
          rw [HQe.out, Hit.out, h2]
          simp only [List.mem_singleton, decide_eq_false_iff_not]
          exact fun e => h3 e.symm
        obtain rfl : k = 1 := by rw [Hn.out, h2]; rfl
        have e2 : (o == 2) = false := by rw [Ho.out]; simpa using h1
        clear h1 h2 h3
        go_wp2_with fail
        go_ret
        exact ⟨rfl, HBr.out⟩
      · obtain rfl : p0 = true := by
          rw [HPe.out, Hpt.out, h2]
          rcases h3 with ⟨rfl, rfl⟩ | ⟨rfl, rfl⟩ <;> simp
        obtain rfl : q0 = true := by
          rw [HQe.out, Hit.out, h2]
          rcases h3 with ⟨rfl, rfl⟩ | ⟨rfl, rfl⟩ <;> simp
        obtain rfl : k = 2 := by rw [Hn.out, h2]; rfl
        obtain rfl : o = 2 := by rw [Ho.out]; exact h1
        clear h1 h2 h3
        go_wp2_with fail
        go_ret
        exact ⟨rfl, HBr.out⟩
end Go.Proofs.YtbnofoncapaabaaGreatDoor
