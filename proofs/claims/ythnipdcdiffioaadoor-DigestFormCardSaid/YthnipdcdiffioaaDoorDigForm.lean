/- The statement on what a digest is: its walk. -/
import Derived.Test.YthnipdcdiffioaaDoorDigLists
import Derived.Test.YthnipdcdiffioaaDoorGrown
namespace Go.Proofs.YthnipdcdiffioaaDoor
open Go.RowKit

theorem isB_len {l : List UInt8} (h : l.length ≠ 16) : Dig.isB l = false := by
  unfold Dig.isB
  rw [decide_eq_false h, Bool.and_false]
theorem isB_65 {l : List UInt8} (h : 65 ∈ l) : Dig.isB l = false := by
  unfold Dig.isB
  rw [Bool.and_eq_false_iff]
  refine Or.inl ?_
  rw [List.all_eq_false]
  exact ⟨65, h, by decide⟩
theorem isB_digest (l : List UInt8) : Dig.isB (digestOf l).data.toList = true := by rw [digestOf_data]; exact Dig.isB_hex _
theorem is_true (s : ByteArray) (hs : s.size ≤ 140737488351232) (h : Dig.isB s.data.toList = true) (w : World) :
    Calls Tryd.prog 19 #[.string s] w fun e w' => e = .returned (.bool true) ∧ w = w' := by
  have := is_any s hs w
  rwa [h] at this
theorem is_false (s : ByteArray) (hs : s.size ≤ 140737488351232) (h : Dig.isB s.data.toList = false) (w : World) :
    Calls Tryd.prog 19 #[.string s] w fun e w' => e = .returned (.bool false) ∧ w = w' := by
  have := is_any s hs w
  rwa [h] at this

set_option maxHeartbeats 4000000 in
theorem lawForm_skip (t : ByteArray) (ao : Option Addr) (ss : List ByteArray) (cap : Nat) (n : Int) (hs : 2000 < (t.size : Int) ∨ ¬ 2000 < (t.size : Int) ∧ fewB ss 200 = false) (hn : ss.length ≤ 140737488351232) (w : World) (ht : Tab w) (hl : IsStrs w ao ss) :
    Calls Tryd.prog 4 #[.string t, .slice ao ss.length cap, .int .u8 n] w fun e w' => e = .returned (.bool true) ∧ Below w.heap.size w w' := by
  have Hl := Lib.hid hl
  clear hl
  rcases hs with hs | ⟨hs, hs2⟩
  all_goals
    go_enter Tryd.func4, Tryd.ntmps4
    go_wp2_with fail
    refine (digHead_any _ ht).mono ?_
    rintro e v1 ⟨rfl, hb⟩
    go_wp2_with (refine (few_any ao ss cap 200 _ (Hl.out.below hb) hn).mono ?_; rintro e w' ⟨rfl, rfl⟩)
    all_goals
      go_ret
      exact ⟨rfl, hb⟩

set_option maxHeartbeats 4000000 in
theorem lawForm_main (t : ByteArray) (ao : Option Addr) (ss : List ByteArray) (cap : Nat) (n : Int) (hn0 : 0 ≤ n) (hn1 : n ≤ 255) (hs : ¬ 2000 < (t.size : Int)) (hs2 : fewB ss 200 = true) (hn : ss.length ≤ 140737488351232) (w : World) (ht : Tab w) (hl : IsStrs w ao ss) :
    Calls Tryd.prog 4 #[.string t, .slice ao ss.length cap, .int .u8 n] w fun e w' => e = .returned (.bool true) ∧ Below w.heap.size w w' := by
  have Hl := Lib.hid hl
  clear hl
  have hk0 : 0 ≤ n % 16 := by omega
  have hk1 : n % 16 ≤ 15 := by omega
  have hk2 : n % 16 ≤ 16 := by omega
  have hk3 : n % 16 + 1 ≤ 16 := by omega
  have hk4 : 0 ≤ n % 16 + 1 := by omega
  have hkw : IntKind.i64.wrap (n % 16 + 1) = n % 16 + 1 := by rw [IntKind.wrap_i64]; omega
  obtain ⟨D, HD⟩ : ∃ D, Hid (D = digestOf t.data.toList) := ⟨_, Lib.hid rfl⟩
  have hD : D.size = 16 := by rw [HD.out, digestOf_size]
  have HB : Hid (Dig.isB D.data.toList = true) := by rw [HD.out]; exact Lib.hid (isB_digest _)
  go_enter Tryd.func4, Tryd.ntmps4
  go_wp2_with fail
  refine (digHead_any _ ht).mono ?_
  rintro e v1 ⟨rfl, hb⟩
  go_wp2_with (refine (few_any ao ss cap 200 _ (Hl.out.below hb) hn).mono ?_; rintro e w' ⟨rfl, rfl⟩)
  refine (sumD_any t (by omega) _).mono ?_
  rintro e v2 ⟨rfl, h⟩
  rw [← HD.out]
  replace hb := hb.trans (h.mono hb.size)
  clear h
  have hdd : D.data.toList.length = 16 := hD
  go_wp2_with fail
  refine wp_region_grown (by kernel_rfl) (by kernel_rfl) ?_
  repeat (go_big_quiet_step (first
    | (go_at_call 17; exact grown_of (list_any ao ss cap _ ((ht.below hb).below (Grown.below _)) ((Hl.out.below hb).below (Grown.below _)) hs2))
    | (go_at_call 19; refine grown_of_same (is_true _ ?_ (by with_reducible exact HB.out) _); omega)
    | (go_at_call 19; refine grown_of_same (is_true _ ?_ (by with_reducible exact isB_digest _) _); rw [digestOf_size]; omega)
    | (go_at_call 19; refine grown_of_same (is_false _ ?_ (isB_len ?_) _)
       · simp [ByteArray.size_append, ByteArray.size_extract, Go.ByteArray.size_mk']; try omega
       · simp; try omega)
    | (go_at_call 19; refine grown_of_same (is_false _ ?_ (isB_65 ?_) _)
       · simp [ByteArray.size_append, ByteArray.size_extract, Go.ByteArray.size_mk']; try omega
       · simp)))
  refine wpQuiet_nil ?_
  rintro _ ⟨x, rfl⟩
  go_wp2
  go_ret
  exact ⟨rfl, hb.trans (x.below.mono hb.size)⟩

theorem lawForm_any (t : ByteArray) (ht0 : t.size ≤ 140737488351232) (ao : Option Addr) (ss : List ByteArray) (cap : Nat) (hn : ss.length ≤ 140737488351232) (n : Int) (hn0 : 0 ≤ n) (hn1 : n ≤ 255) (w : World) (hl : IsStrs w ao ss) (ht : Tab w) :
    Calls Tryd.prog 4 #[.string t, .slice ao ss.length cap, .int .u8 n] w fun e w' => e = .returned (.bool true) ∧ Below w.heap.size w w' := by
  have _ := ht0
  by_cases hs : 2000 < (t.size : Int)
  · exact lawForm_skip t ao ss cap n (Or.inl hs) hn w ht hl
  · cases hs2 : fewB ss 200
    · exact lawForm_skip t ao ss cap n (Or.inr ⟨hs, hs2⟩) hn w ht hl
    · exact lawForm_main t ao ss cap n hn0 hn1 hs hs2 hn w ht hl

end Go.Proofs.YthnipdcdiffioaaDoor
