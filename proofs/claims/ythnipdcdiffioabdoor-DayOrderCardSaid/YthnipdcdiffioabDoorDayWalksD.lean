/- The walks of the statements' own functions over package day, and of Months and Text. -/
import Derived.Test.YthnipdcdiffioabDoorDayWalksC
import Derived.Test.YthnipdcdiffioabDoorItoa
import Derived.Test.YthnipdcdiffioabDoorGrown
namespace Go.Proofs.YthnipdcdiffioabDoor
open Go.RowKit

set_option maxHeartbeats 1000000 in
theorem of_bad (n : Int) (h : ¬ (0 ≤ n ∧ n ≤ 40000)) (w : World) :
    Calls Tryd.prog 9 #[.int .i64 n] w fun e w' => e = .returned (.tuple #[.agg #[.int .i64 0, .int .i64 0, .int .i64 0], .int .i64 13]) ∧ Below w.heap.size w w' := by
  have HD : Hid (∀ W, Calls Tryd.prog 19 #[.int .i64 n] W fun e w' => e = .returned (.tuple #[.int .i64 0, .int .i64 0, .int .i64 0, .int .i64 13]) ∧ Below W.heap.size W w') := Lib.hid fun W => date_bad n h W
  clear h
  go_enter Tryd.func9, Tryd.ntmps9
  go_wp2_with fail
  refine (HD.out _).mono ?_
  rintro e w1 ⟨rfl, hb⟩
  obtain ⟨hc, hd⟩ := bcell hb
  go_wp2
  refine bodyPost_ret (v := .tuple #[.agg #[.int .i64 0, .int .i64 0, .int .i64 0], .int .i64 13]) (by simp [results, Tryd.results9, go_sem, hc]) rfl ⟨rfl, ?_⟩
  exact (((((Below.refl _ _).alloc (Nat.le_refl _) _).trans (hb.mono (by simp))).setCell (Nat.le_refl _) _).setCell (Nat.le_refl _) _).setCell (Nat.le_refl _) _

set_option maxHeartbeats 1000000 in
theorem of_good (n : Int) (K : Nat) (hK : K ≤ 1320) (h1 : Cal.cum K ≤ n) (h2 : n < Cal.cum (K + 1)) (h : 0 ≤ n ∧ n ≤ 40000) (w : World) (hT : MTab w) :
    Calls Tryd.prog 9 #[.int .i64 n] w fun e w' => e = .returned (.tuple #[.agg #[.int .i64 (Cal.yr K), .int .i64 (Cal.mo K), .int .i64 (n - Cal.cum K + 1)], .int .i64 0]) ∧ Below w.heap.size w w' := by
  have HD : Hid (∀ W, MTab W → Calls Tryd.prog 19 #[.int .i64 n] W fun e w' => e = .returned (.tuple #[.int .i64 (Cal.yr K), .int .i64 (Cal.mo K), .int .i64 (n - Cal.cum K + 1), .int .i64 0]) ∧ Below W.heap.size W w') := Lib.hid fun W hW => date_good n K hK h1 h2 h W hW
  obtain ⟨a, Ha⟩ : ∃ a, Hid (a = Cal.yr K) := ⟨_, Lib.hid rfl⟩
  obtain ⟨b, Hb⟩ : ∃ a, Hid (a = Cal.mo K) := ⟨_, Lib.hid rfl⟩
  obtain ⟨c, Hc⟩ : ∃ a, Hid (a = n - Cal.cum K + 1) := ⟨_, Lib.hid rfl⟩
  rw [← Ha.out, ← Hb.out, ← Hc.out] at HD ⊢
  clear h1 h2 h
  have HT := Lib.hid hT
  clear hT
  go_enter Tryd.func9, Tryd.ntmps9
  go_wp2_with fail
  refine (HD.out _ (HT.out.below ((Below.refl _ _).alloc (Nat.le_refl _) _))).mono ?_
  rintro e w1 ⟨rfl, hb⟩
  obtain ⟨hc, hd⟩ := bcell hb
  go_wp2
  refine bodyPost_ret (v := .tuple #[.agg #[.int .i64 a, .int .i64 b, .int .i64 c], .int .i64 0]) (by simp [results, Tryd.results9, go_sem, hc]) rfl ⟨rfl, ?_⟩
  exact (((((Below.refl _ _).alloc (Nat.le_refl _) _).trans (hb.mono (by simp))).setCell (Nat.le_refl _) _).setCell (Nat.le_refl _) _).setCell (Nat.le_refl _) _

theorem drop_one (D : List UInt8) : (⟨D.toArray⟩ : ByteArray).extract 1 D.length = ⟨(D.drop 1).toArray⟩ := by
  apply ByteArray.ext
  apply Array.ext'
  rw [Lib.extract_data]
  simp
  exact List.take_of_length_le (by simp)
/-- Two digits. -/
def two (k : Nat) : List UInt8 := (Lib.decDigits (100 + k)).drop 1
set_option maxHeartbeats 1000000 in
theorem twoDigits_any (k : Nat) (hk : k ≤ 1000) (w : World) (ht : Tab w) :
    Calls Tryd.prog 28 #[.int .i64 k] w fun e w' => e = .returned (.string ⟨(two k).toArray⟩) ∧ Below w.heap.size w w' := by
  have HI : Hid (Calls Tryd.prog 27 #[.int .i64 (100 + (k : Int))] w fun e w' => e = .returned (.string ⟨(Lib.decDigits (100 + k)).toArray⟩) ∧ Below w.heap.size w w') := by
    have := itoa_any (100 + k) (by omega) w ht
    rw [show ((100 + k : Nat) : Int) = 100 + (k : Int) by omega] at this
    exact Lib.hid this
  have hl : 1 ≤ (Lib.decDigits (100 + k)).length := by rw [Lib.decDigits, dif_neg (by omega)]; simp
  obtain ⟨D, HDd⟩ : ∃ D, Hid (D = Lib.decDigits (100 + k)) := ⟨_, Lib.hid rfl⟩
  rw [← HDd.out] at HI hl
  have Hr : Hid (two k = D.drop 1) := by rw [HDd.out]; exact Lib.hid rfl
  rw [Hr.out]
  clear ht
  go_enter Tryd.func28, Tryd.ntmps28
  go_wp2_with fail
  refine HI.out.mono ?_
  rintro e w1 ⟨rfl, hb⟩
  go_wp2
  go_ret
  exact ⟨ret_str (drop_one D), hb⟩

/-- The text of a date. -/
def dateText (y m d : Nat) : List UInt8 := Lib.decDigits y ++ [45] ++ two m ++ [45] ++ two d
theorem two_len (k : Nat) (hk : k < 100) : (two k).length = 2 := by
  unfold two
  rw [Lib.decDigits, dif_neg (by omega), Lib.decDigits, dif_neg (by omega), Lib.decDigits, dif_pos (by omega)]
  rfl
theorem year_len (y : Nat) (h1 : 1000 ≤ y) (h2 : y < 10000) : (Lib.decDigits y).length = 4 := by
  rw [Lib.decDigits, dif_neg (by omega), Lib.decDigits, dif_neg (by omega), Lib.decDigits, dif_neg (by omega), Lib.decDigits, dif_pos (by omega)]
  rfl

set_option maxHeartbeats 2000000 in
theorem text_bad (n : Int) (h : ¬ (0 ≤ n ∧ n ≤ 40000)) (w : World) :
    Calls Tryd.prog 13 #[.int .i64 n] w fun e w' => e = .returned (.tuple #[.string ⟨#[]⟩, .int .i64 13]) ∧ w = w' := by
  have Hd : Hid (Calls Tryd.prog 25 #[.int .i64 n] w fun e w' => e = .returned (.bool false) ∧ w = w') := by
    refine Lib.hid (isDay_val n false ?_ w)
    rw [Bool.and_eq_false_iff]
    by_cases h0 : 0 ≤ n
    · exact Or.inr (decide_eq_false (by omega))
    · exact Or.inl (decide_eq_false h0)
  clear h
  go_enter Tryd.func13, Tryd.ntmps13
  go_wp2_with fail
  refine Hd.out.mono ?_
  rintro e _ ⟨rfl, rfl⟩
  go_wp2
  go_ret2
  exact ⟨rfl, rfl⟩

set_option maxHeartbeats 4000000 in
theorem text_good (n : Int) (K y m d : Nat) (hK : K ≤ 1320) (h1 : Cal.cum K ≤ n) (h2 : n < Cal.cum (K + 1)) (h : 0 ≤ n ∧ n ≤ 40000) (hy : (y : Int) = Cal.yr K) (hm : (m : Int) = Cal.mo K) (hd : (d : Int) = n - Cal.cum K + 1) (w : World) (hT : MTab w) (ht : Tab w) :
    Calls Tryd.prog 13 #[.int .i64 n] w fun e w' => e = .returned (.tuple #[.string ⟨(dateText y m d).toArray⟩, .int .i64 0]) ∧ Below w.heap.size w w' := by
  have Hd : Hid (Calls Tryd.prog 25 #[.int .i64 n] w fun e w' => e = .returned (.bool true) ∧ w = w') := by
    refine Lib.hid (isDay_val n true ?_ w)
    rw [decide_eq_true h.1, decide_eq_true h.2]; rfl
  have HD : Hid (Calls Tryd.prog 26 #[.int .i64 n] w fun e w' => e = .returned (.agg #[.int .i64 y, .int .i64 m, .int .i64 d]) ∧ Below w.heap.size w w') := by
    rw [hy, hm, hd]; exact Lib.hid (dateOf_any n K hK h1 h2 w hT)
  have yb : 2000 ≤ y ∧ y ≤ 2110 := by unfold Cal.yr at hy; omega
  have mb : 1 ≤ m ∧ m ≤ 12 := by have := Cal.mo_bd K; omega
  have db : 1 ≤ d ∧ d ≤ 31 := by have := Cal.len_bd K; have e : Cal.cum (K + 1) = Cal.cum K + Cal.len K := rfl; omega
  have ly := year_len y (by omega) (by omega)
  have lm := two_len m (by omega)
  have ld := two_len d (by omega)
  obtain ⟨Y, HY⟩ : ∃ Y, Hid (Y = Lib.decDigits y) := ⟨_, Lib.hid rfl⟩
  obtain ⟨M, HM⟩ : ∃ Y, Hid (Y = two m) := ⟨_, Lib.hid rfl⟩
  obtain ⟨D, HDd⟩ : ∃ Y, Hid (Y = two d) := ⟨_, Lib.hid rfl⟩
  rw [← HY.out] at ly
  rw [← HM.out] at lm
  rw [← HDd.out] at ld
  have I1 : Hid (∀ W, Tab W → Calls Tryd.prog 27 #[.int .i64 y] W fun e w' => e = .returned (.string ⟨Y.toArray⟩) ∧ Below W.heap.size W w') := Lib.hid fun W hW => by rw [HY.out]; exact itoa_any y (by omega) W hW
  have I2 : Hid (∀ W, Tab W → Calls Tryd.prog 28 #[.int .i64 m] W fun e w' => e = .returned (.string ⟨M.toArray⟩) ∧ Below W.heap.size W w') := Lib.hid fun W hW => by rw [HM.out]; exact twoDigits_any m (by omega) W hW
  have I3 : Hid (∀ W, Tab W → Calls Tryd.prog 28 #[.int .i64 d] W fun e w' => e = .returned (.string ⟨D.toArray⟩) ∧ Below W.heap.size W w') := Lib.hid fun W hW => by rw [HDd.out]; exact twoDigits_any d (by omega) W hW
  have Hres : Hid (dateText y m d = Y ++ [45] ++ M ++ [45] ++ D) := by rw [HY.out, HM.out, HDd.out]; exact Lib.hid rfl
  have HTb := Lib.hid ht
  rw [Hres.out]
  clear hT ht h h1 h2 hy hm hd yb mb db
  go_enter Tryd.func13, Tryd.ntmps13
  go_wp2_with fail
  refine Hd.out.mono ?_
  rintro e _ ⟨rfl, rfl⟩
  go_wp2_with fail
  refine HD.out.mono ?_
  rintro e w1 ⟨rfl, hb⟩
  go_wp2_with fail
  have ly' : Y.length ≤ 4 := by omega
  have lm' : M.length ≤ 2 := by omega
  have ld' : D.length ≤ 2 := by omega
  clear ly lm ld
  obtain ⟨W, HW⟩ : ∃ W, Hid (W = w1.alloc (.cells #[.int .i64 y, .int .i64 m, .int .i64 d] 46)) := ⟨_, Lib.hid rfl⟩
  have zw : w1.heap.size < W.heap.size := by rw [HW.out]; simp
  have q0 : ∀ x : Grown W, x.w.cell? ⟨w1.heap.size, 0, none⟩ = some (.int .i64 y) := fun x => by rw [x.cell zw, HW.out]; simp [cell_alloc]
  have q1 : ∀ x : Grown W, x.w.cell? ⟨w1.heap.size, 1, none⟩ = some (.int .i64 m) := fun x => by rw [x.cell zw, HW.out]; simp [cell_alloc]
  have q2 : ∀ x : Grown W, x.w.cell? ⟨w1.heap.size, 2, none⟩ = some (.int .i64 d) := fun x => by rw [x.cell zw, HW.out]; simp [cell_alloc]
  have hbW : Below w.heap.size w W := by rw [HW.out]; exact hb.alloc hb.size _
  have HTW : Hid (Tab W) := Lib.hid (HTb.out.below hbW)
  rw [← HW.out]
  refine wp_region_grown (by kernel_rfl) (by kernel_rfl) ?_
  repeat (go_big_quiet_step (first
    | (go_at_call 27; with_reducible exact grown_of (I1.out _ (HTW.out.below (Grown.below _))))
    | (go_at_call 28; with_reducible exact grown_of (I2.out _ (HTW.out.below (Grown.below _))))
    | (go_at_call 28; with_reducible exact grown_of (I3.out _ (HTW.out.below (Grown.below _))))))
  refine wpQuiet_nil ?_
  rintro _ ⟨x, rfl⟩
  go_wp2
  go_ret2
  refine ⟨?_, hbW.trans (x.below.mono hbW.size)⟩
  congr 1

/-- What Number answers. -/
def numV (y m d : Int) : Int := Cal.cum (12 * (y - 2000) + (m - 1)).toNat + d - 1
def numE (y m d : Int) : Int := if m < 1 ∨ 12 < m ∨ d < 1 ∨ Cal.mlen y m < d then 1 else if y < 2000 ∨ 2109 < y then 13 else if numV y m d ≤ 40000 then 0 else 13
theorem number_any (y m d : Int) (w : World) (hT : MTab w) :
    Calls Tryd.prog 11 #[.int .i64 y, .int .i64 m, .int .i64 d] w fun e w' => e = .returned (.tuple #[.int .i64 (if numE y m d = 0 then numV y m d else 0), .int .i64 (numE y m d)]) ∧ Below w.heap.size w w' := by
  by_cases hb : badDate y m d
  · have he : numE y m d = 1 := by unfold numE; unfold badDate at hb; rw [if_pos hb]
    rw [he]
    exact (number_arg y m d hb w hT).mono fun e w' ⟨h1, h2⟩ => ⟨h1, h2 ▸ Below.refl _ _⟩
  · by_cases hy : y < 2000 ∨ 2109 < y
    · have he : numE y m d = 13 := by unfold numE; unfold badDate at hb; rw [if_neg hb, if_pos hy]
      rw [he]
      exact (number_year y m d hb hy w hT).mono fun e w' ⟨h1, h2⟩ => ⟨h1, h2 ▸ Below.refl _ _⟩
    · have hb' := hb
      unfold badDate at hb'
      obtain ⟨K, hK⟩ : ∃ K, K = (12 * (y - 2000) + (m - 1)).toNat := ⟨_, rfl⟩
      have e1 : Cal.yr K = y := by rw [hK]; exact (Cal.yr_mo (by omega) (by omega) (by omega)).1
      have e2 : Cal.mo K = m := by rw [hK]; exact (Cal.yr_mo (by omega) (by omega) (by omega)).2
      have e3 : Cal.len K = Cal.mlen y m := by unfold Cal.len; rw [e1, e2]
      have e4 : numV y m d = Cal.cum K + d - 1 := by unfold numV; rw [← hK]
      have hn0 : 0 ≤ Cal.cum K + d - 1 := by have := Cal.cum_nonneg K; omega
      have he : numE y m d = if Cal.cum K + d - 1 ≤ 40000 then 0 else 13 := by unfold numE; rw [if_neg hb', if_neg hy, e4]
      have key := number_run K d (by omega) (by omega) (by rw [e3]; omega) (decide (Cal.cum K + d - 1 ≤ 40000)) (by rw [decide_eq_true hn0, Bool.true_and]) w hT
      rw [e1, e2] at key
      rw [he, e4]
      by_cases hle : Cal.cum K + d - 1 ≤ 40000
      · rw [decide_eq_true hle] at key
        rw [if_pos hle, if_pos rfl]
        exact key
      · rw [decide_eq_false hle] at key
        rw [if_neg hle, if_neg (by decide)]
        exact key

end Go.Proofs.YthnipdcdiffioabDoor
