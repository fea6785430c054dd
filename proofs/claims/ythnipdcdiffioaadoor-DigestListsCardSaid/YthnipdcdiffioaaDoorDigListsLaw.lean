/- The statement on digests of lists: its walk. -/
import Derived.Test.YthnipdcdiffioaaDoorSameRef
import Derived.Test.YthnipdcdiffioaaDoorDigShort
import Derived.Test.YthnipdcdiffioaaDoorGrown
namespace Go.Proofs.YthnipdcdiffioaaDoor
open Go.RowKit

theorem run_min3 {P : Program} (ts : Array TypeId) (t : TypeId) (a b c n : Int) (h : n = if c < (if b < a then b else a) then c else (if b < a then b else a)) (w : World) :
    (Builtin.min_ ts t #[.int .i64 a, .int .i64 b, .int .i64 c]).run P w = .ok (.int .i64 n) w := by
  subst h
  simp [Builtin.min_, Builtin.min2]

set_option maxRecDepth 100000 in
set_option maxHeartbeats 4000000 in
theorem lawLists_skip (ao bo : Option Addr) (ss tt : List ByteArray) (c1 c2 : Nat) (p q : ByteArray) (hs : fewB ss 200 = false ∨ fewB ss 200 = true ∧ fewB tt 200 = false) (hn1 : ss.length ≤ 140737488351232) (hn2 : tt.length ≤ 140737488351232) (w : World) (ht : Tab w) (hl1 : IsStrs w ao ss) (hl2 : IsStrs w bo tt) :
    Calls Tryd.prog 7 #[.slice ao ss.length c1, .slice bo tt.length c2, .string p, .string q] w fun e w' => e = .returned (.bool true) ∧ Below w.heap.size w w' := by
  have H1 := Lib.hid hl1
  have H2 := Lib.hid hl2
  clear hl1 hl2
  rcases hs with hs | ⟨hs, hs2⟩
  · go_enter Tryd.func7, Tryd.ntmps7
    go_wp2_with fail
    refine (digHead_any _ ht).mono ?_
    rintro e v1 ⟨rfl, hb⟩
    go_wp2_with fail
    refine (few_any ao ss c1 200 _ (H1.out.below hb) hn1).mono ?_
    rintro e _ ⟨rfl, rfl⟩
    go_wp2
    go_ret
    exact ⟨rfl, hb⟩
  · go_enter Tryd.func7, Tryd.ntmps7
    go_wp2_with fail
    refine (digHead_any _ ht).mono ?_
    rintro e v1 ⟨rfl, hb⟩
    go_wp2_with fail
    refine (few_any ao ss c1 200 _ (H1.out.below hb) hn1).mono ?_
    rintro e _ ⟨rfl, rfl⟩
    go_wp2_with fail
    refine (few_any bo tt c2 200 _ (H2.out.below hb) hn2).mono ?_
    rintro e _ ⟨rfl, rfl⟩
    go_wp2
    go_ret
    exact ⟨rfl, hb⟩

/-- The end of the statement: the two lists of one text. -/
theorem one_list (p : ByteArray) (hp : p.size ≤ 200) (B : Nat) (w : World) (ht : Tab w) (hc : w.cell? ⟨B, 0, none⟩ = some (.string p)) :
    Calls Tryd.prog 17 #[.slice (some ⟨B, 0, none⟩) 1 1] w fun e w' => e = .returned (.string (digestOf (joinText [p.data.toList]))) ∧ Below w.heap.size w w' := by
  have hB := lt_of_cell hc
  have := list_any (some ⟨B, 0, none⟩) [p] 1 w ht (Or.inr ⟨B, 0, rfl, hB, fun k hk => by
    obtain rfl : k = 0 := by simp at hk; exact hk
    simpa using hc⟩) ((fewB_iff _ _).2 ⟨by intro s hs; obtain rfl := List.mem_singleton.1 hs; omega, by simp⟩)
  exact this

theorem cut_facts (p q : ByteArray) (n : Nat) (h1 : n ≤ p.size) (h2 : n ≤ q.size) :
    (p.extract 0 n).size = n ∧ ((p.extract 0 n).extract 0 (min (n : Int) 6).toNat ++ q.extract (min (n : Int) 6).toNat n).size = n ∧
      (p.extract 0 n).data.toList.take 6 = ((p.extract 0 n).extract 0 (min (n : Int) 6).toNat ++ q.extract (min (n : Int) 6).toNat n).data.toList.take 6 := by
  obtain ⟨m, hm⟩ : ∃ m, m = (min (n : Int) 6).toNat := ⟨_, rfl⟩
  have hmn : m ≤ n ∧ m ≤ 6 ∧ (m = n ∨ m = 6) := by omega
  rw [← hm]
  have e1 : (p.extract 0 n).size = n := by rw [ByteArray.size_extract]; omega
  refine ⟨e1, by simp only [ByteArray.size_append, ByteArray.size_extract]; omega, ?_⟩
  have e2 : ((p.extract 0 n).extract 0 m ++ q.extract m n).data.toList = (p.extract 0 n).data.toList.take m ++ (q.extract m n).data.toList := by
    rw [ByteArray.data_append, Array.toList_append, Lib.extract_data, List.drop_zero, Nat.sub_zero]
  have e3 : (p.extract 0 n).data.toList.length = n := e1
  rw [e2]
  rcases hmn.2.2 with h | h
  · have e4 : (q.extract m n).data.toList = [] := by
      apply List.eq_nil_of_length_eq_zero
      show (q.extract m n).size = 0
      rw [ByteArray.size_extract]; omega
    rw [e4, List.append_nil, List.take_of_length_le (i := m) (by omega)]
  · subst h
    rw [List.take_append_of_le_length (by rw [List.length_take, e3]; omega), List.take_take, Nat.min_self]
theorem one_test (P Q : ByteArray) (n : Nat) (hn : n ≤ 9) (hP : P.size = n) (hQ : Q.size = n) (h6 : P.data.toList.take 6 = Q.data.toList.take 6) :
    (((digestOf (joinText [P.data.toList])).toList == (digestOf (joinText [Q.data.toList])).toList) == (P.toList == Q.toList)) = true := by
  have l1 : P.data.toList.length = n := hP
  have l2 : Q.data.toList.length = n := hQ
  by_cases h : P = Q
  · subst h
    rw [beq_self_eq_true, beq_self_eq_true]; rfl
  · rw [digestOf_bne (fun e => h (by
      have := one_inj (by omega) (by omega) h6 e
      cases P; cases Q; simpa using this)), (Lib.bytes_beq_false_iff _ _).2 h]; rfl

set_option maxRecDepth 100000 in
set_option maxHeartbeats 4000000 in
theorem lawLists_main (ao bo : Option Addr) (ss tt : List ByteArray) (c1 c2 : Nat) (p q : ByteArray) (hp : p.size ≤ 140737488351232) (hq : q.size ≤ 140737488351232) (hs : fewB ss 200 = true) (hs2 : fewB tt 200 = true) (hn1 : ss.length ≤ 140737488351232) (hn2 : tt.length ≤ 140737488351232)
    (t1 t2 : Bool) (A B : ByteArray) (hA : A = ⟨(joinText (bytesOf ss)).toArray⟩) (hB : B = ⟨(joinText (bytesOf tt)).toArray⟩) (d1 : decide ((A.size : Int) ≤ 7) = t1) (d2 : decide ((B.size : Int) ≤ 7) = t2) (w : World) (ht : Tab w) (hl1 : IsStrs w ao ss) (hl2 : IsStrs w bo tt) :
    Calls Tryd.prog 7 #[.slice ao ss.length c1, .slice bo tt.length c2, .string p, .string q] w fun e w' => e = .returned (.bool true) ∧ Below w.heap.size w w' := by
  have H1 := Lib.hid hl1
  have H2 := Lib.hid hl2
  have HA := Lib.hid hA
  have HB := Lib.hid hB
  clear hl1 hl2 hA hB
  have hA2 : A.size ≤ 6630 := by
    have := joinText_take_le' ss hs ss.length
    rw [List.take_of_length_le (by simp [bytesOf])] at this
    rw [HA.out]; show (joinText (bytesOf ss)).toArray.size ≤ _; simpa using this
  have hB2 : B.size ≤ 6630 := by
    have := joinText_take_le' tt hs2 tt.length
    rw [List.take_of_length_le (by simp [bytesOf])] at this
    rw [HB.out]; show (joinText (bytesOf tt)).toArray.size ≤ _; simpa using this
  obtain ⟨sb, Hsb⟩ : ∃ sb, Hid (sb = sameB ss tt) := ⟨_, Lib.hid rfl⟩
  have hAB : (A.toList == B.toList) = sb := by
    rw [Hsb.out]
    by_cases h : ss = tt
    · rw [sameB_true h, HA.out, HB.out, h, beq_self_eq_true]
    · rw [sameB_false h]
      refine (Lib.bytes_beq_false_iff _ _).2 fun e => h (bytesOf_inj (joinText_inj _ _ ?_))
      rw [HA.out, HB.out] at e
      simpa using e
  obtain ⟨DA, HDA⟩ : ∃ D, Hid (D = digestOf A.data.toList) := ⟨_, Lib.hid rfl⟩
  obtain ⟨DB, HDB⟩ : ∃ D, Hid (D = digestOf B.data.toList) := ⟨_, Lib.hid rfl⟩
  have sumA : ∀ W : World, Calls Tryd.prog 15 #[.string A] W fun e w' => e = .returned (.string DA) ∧ Below W.heap.size W w' := fun W => by rw [HDA.out]; exact sumD_any A (by omega) W
  have listA : ∀ W : World, Tab W → IsStrs W ao ss → Calls Tryd.prog 17 #[.slice ao ss.length c1] W fun e w' => e = .returned (.string DA) ∧ Below W.heap.size W w' := fun W h1 h2 => by
    have := list_any ao ss c1 W h1 h2 hs
    rw [HDA.out, HA.out]; exact this
  have listB : ∀ W : World, Tab W → IsStrs W bo tt → Calls Tryd.prog 17 #[.slice bo tt.length c2] W fun e w' => e = .returned (.string DB) ∧ Below W.heap.size W w' := fun W h1 h2 => by
    have := list_any bo tt c2 W h1 h2 hs2
    rw [HDB.out, HB.out]; exact this
  have joinA : ∀ W : World, IsStrs W ao ss → Calls Tryd.prog 21 #[.slice ao ss.length c1] W fun e w' => e = .returned (.string A) ∧ Below W.heap.size W w' := fun W h => by rw [HA.out]; exact refJoined_any ao ss c1 W h hs
  have joinB : ∀ W : World, IsStrs W bo tt → Calls Tryd.prog 21 #[.slice bo tt.length c2] W fun e w' => e = .returned (.string B) ∧ Below W.heap.size W w' := fun W h => by rw [HB.out]; exact refJoined_any bo tt c2 W h hs2
  have same : ∀ W : World, IsStrs W ao ss → IsStrs W bo tt → Calls Tryd.prog 22 #[.slice ao ss.length c1, .slice bo tt.length c2] W fun e w' => e = .returned (.bool sb) ∧ Below W.heap.size W w' := fun W h1 h2 => by rw [Hsb.out]; exact refSame_any ao bo ss tt c1 c2 W h1 h2 hn1 hn2
  have hDD : t1 = true → t2 = true → (DA.toList == DB.toList) = sb := fun h1 h2 => by
    rw [h1] at d1; rw [h2] at d2
    have h3 := short_test A B (by have := of_decide_eq_true d1; omega) (by have := of_decide_eq_true d2; omega)
    rw [← HDA.out, ← HDB.out, hAB] at h3
    simpa using h3
  have HDD := Lib.hid hDD
  clear hDD
  have HSA := Lib.hid sumA
  have HLA := Lib.hid listA
  have HLB := Lib.hid listB
  have HJA := Lib.hid joinA
  have HJB := Lib.hid joinB
  have HS := Lib.hid same
  clear sumA listA listB joinA joinB same
  obtain ⟨n, Hn⟩ : ∃ n : Nat, Hid ((n : Int) = if (9 : Int) < (if (q.size : Int) < p.size then (q.size : Int) else p.size) then 9 else (if (q.size : Int) < p.size then (q.size : Int) else p.size)) :=
    ⟨(if (9 : Int) < (if (q.size : Int) < p.size then (q.size : Int) else p.size) then 9 else (if (q.size : Int) < p.size then (q.size : Int) else p.size)).toNat, Lib.hid (by split <;> (try split) <;> omega)⟩
  have hn : n ≤ 9 ∧ n ≤ p.size ∧ n ≤ q.size := by have h := Hn.out; split at h <;> (try split at h) <;> omega
  obtain ⟨k1, k2, k3⟩ := hn
  have hmin := fun (ts : Array TypeId) (t : TypeId) (w : World) => run_min3 (P := Tryd.prog) ts t p.size q.size 9 n Hn.out w
  go_enter Tryd.func7, Tryd.ntmps7
  go_wp2_with fail
  refine (digHead_any _ ht).mono ?_
  rintro e v1 ⟨rfl, hb⟩
  go_wp2_with fail
  refine (few_any ao ss c1 200 _ (H1.out.below hb) hn1).mono ?_
  rintro e _ ⟨rfl, rfl⟩
  go_wp2_with fail
  refine (few_any bo tt c2 200 _ (H2.out.below hb) hn2).mono ?_
  rintro e _ ⟨rfl, rfl⟩
  go_wp2_with fail
  refine (HJA.out _ (H1.out.below hb)).mono ?_
  rintro e v2 ⟨rfl, h⟩
  replace hb := hb.trans (h.mono hb.size)
  clear h
  go_wp2_with fail
  refine (HJB.out _ (H2.out.below hb)).mono ?_
  rintro e v3 ⟨rfl, h⟩
  replace hb := hb.trans (h.mono hb.size)
  clear h
  go_wp2_with fail
  refine (HLA.out _ (ht.below hb) (H1.out.below hb)).mono ?_
  rintro e v4 ⟨rfl, h⟩
  replace hb := hb.trans (h.mono hb.size)
  clear h
  go_wp2_with fail
  refine (HSA.out _).mono ?_
  rintro e v5 ⟨rfl, h⟩
  replace hb := hb.trans (h.mono hb.size)
  clear h
  go_wp2_with fail
  refine (HS.out _ (H1.out.below hb) (H2.out.below hb)).mono ?_
  rintro e v6 ⟨rfl, h⟩
  replace hb := hb.trans (h.mono hb.size)
  clear h
  go_wp2_with fail
  case isTrue =>
    have hd := HDD.out (by assumption) (by assumption)
    refine (HLA.out _ (ht.below hb) (H1.out.below hb)).mono ?_
    rintro e v7 ⟨rfl, h⟩
    replace hb := hb.trans (h.mono hb.size)
    clear h
    go_wp2_with fail
    refine (HLB.out _ (ht.below hb) (H2.out.below hb)).mono ?_
    rintro e v8 ⟨rfl, h⟩
    replace hb := hb.trans (h.mono hb.size)
    clear h
    go_wp2_with fail
    refine (HS.out _ (H1.out.below hb) (H2.out.below hb)).mono ?_
    rintro e v9 ⟨rfl, h⟩
    replace hb := hb.trans (h.mono hb.size)
    clear h
    go_wp2_with fail
    go_quiet (fail)
    obtain ⟨f1, f2, f3⟩ := cut_facts p q n k2 k3
    generalize p.extract 0 n = P at f1 f2 f3 ⊢
    generalize P.extract 0 (min (n : Int) 6).toNat ++ q.extract (min (n : Int) 6).toNat n = Q at f2 f3 ⊢
    have Htest := Lib.hid (one_test P Q n k1 f1 f2 f3)
    obtain ⟨D1, HD1⟩ : ∃ D, Hid (D = digestOf (joinText [P.data.toList])) := ⟨_, Lib.hid rfl⟩
    obtain ⟨D2, HD2⟩ : ∃ D, Hid (D = digestOf (joinText [Q.data.toList])) := ⟨_, Lib.hid rfl⟩
    rw [← HD1.out, ← HD2.out] at Htest
    have F1 := Lib.hid f1
    have F2 := Lib.hid f2
    clear f1 f2 f3 hmin
    have htest := Htest.out
    go_wp2_with fail
    refine (one_list P (by have := F1.out; omega) _ _ ((ht.below hb).below ((below_drewN (Below.refl _ _) _).alloc (Nat.le_refl _) _)) (by simp [cell_alloc])).mono ?_
    rintro e x1 ⟨rfl, h⟩
    rw [← HD1.out]
    replace hb := hb.trans ((((below_drewN (Below.refl _ _) _).alloc (Nat.le_refl _) _).trans (h.mono (by rw [size_alloc]; omega))).mono hb.size)
    clear h
    go_wp2_with fail
    refine (one_list Q (by have := F2.out; omega) _ _ ((ht.below hb).below ((Below.refl _ _).alloc (Nat.le_refl _) _)) (by simp [cell_alloc])).mono ?_
    rintro e x2 ⟨rfl, h⟩
    rw [← HD2.out]
    replace hb := hb.trans ((((Below.refl _ _).alloc (Nat.le_refl _) _).trans (h.mono (by rw [size_alloc]; omega))).mono hb.size)
    clear h
    go_wp2
    go_ret
    exact ⟨rfl, hb⟩
  all_goals
    go_quiet (fail)
    obtain ⟨f1, f2, f3⟩ := cut_facts p q n k2 k3
    generalize p.extract 0 n = P at f1 f2 f3 ⊢
    generalize P.extract 0 (min (n : Int) 6).toNat ++ q.extract (min (n : Int) 6).toNat n = Q at f2 f3 ⊢
    have Htest := Lib.hid (one_test P Q n k1 f1 f2 f3)
    obtain ⟨D1, HD1⟩ : ∃ D, Hid (D = digestOf (joinText [P.data.toList])) := ⟨_, Lib.hid rfl⟩
    obtain ⟨D2, HD2⟩ : ∃ D, Hid (D = digestOf (joinText [Q.data.toList])) := ⟨_, Lib.hid rfl⟩
    rw [← HD1.out, ← HD2.out] at Htest
    have F1 := Lib.hid f1
    have F2 := Lib.hid f2
    clear f1 f2 f3 hmin
    have htest := Htest.out
    go_wp2_with fail
    refine (one_list P (by have := F1.out; omega) _ _ ((ht.below hb).below ((below_drewN (Below.refl _ _) _).alloc (Nat.le_refl _) _)) (by simp [cell_alloc])).mono ?_
    rintro e x1 ⟨rfl, h⟩
    rw [← HD1.out]
    replace hb := hb.trans ((((below_drewN (Below.refl _ _) _).alloc (Nat.le_refl _) _).trans (h.mono (by rw [size_alloc]; omega))).mono hb.size)
    clear h
    go_wp2_with fail
    refine (one_list Q (by have := F2.out; omega) _ _ ((ht.below hb).below ((Below.refl _ _).alloc (Nat.le_refl _) _)) (by simp [cell_alloc])).mono ?_
    rintro e x2 ⟨rfl, h⟩
    rw [← HD2.out]
    replace hb := hb.trans ((((Below.refl _ _).alloc (Nat.le_refl _) _).trans (h.mono (by rw [size_alloc]; omega))).mono hb.size)
    clear h
    go_wp2
    go_ret
    exact ⟨rfl, hb⟩

theorem lawLists_any (ao : Option Addr) (ss : List ByteArray) (c1 : Nat) (hn1 : ss.length ≤ 140737488351232) (bo : Option Addr) (tt : List ByteArray) (c2 : Nat) (hn2 : tt.length ≤ 140737488351232) (p : ByteArray) (hp : p.size ≤ 140737488351232) (q : ByteArray) (hq : q.size ≤ 140737488351232) (w : World) (hl1 : IsStrs w ao ss) (hl2 : IsStrs w bo tt) (ht : Tab w) :
    Calls Tryd.prog 7 #[.slice ao ss.length c1, .slice bo tt.length c2, .string p, .string q] w fun e w' => e = .returned (.bool true) ∧ Below w.heap.size w w' := by
  cases h1 : fewB ss 200
  · exact lawLists_skip ao bo ss tt c1 c2 p q (Or.inl h1) hn1 hn2 w ht hl1 hl2
  · cases h2 : fewB tt 200
    · exact lawLists_skip ao bo ss tt c1 c2 p q (Or.inr ⟨h1, h2⟩) hn1 hn2 w ht hl1 hl2
    · exact lawLists_main ao bo ss tt c1 c2 p q hp hq h1 h2 hn1 hn2 _ _ _ _ rfl rfl rfl rfl w ht hl1 hl2

end Go.Proofs.YthnipdcdiffioaaDoor
