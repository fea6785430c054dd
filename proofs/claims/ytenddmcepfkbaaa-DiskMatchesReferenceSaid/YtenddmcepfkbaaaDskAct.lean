/- The walks of the statements on disks: the text of an operation, fillings, sizes. -/
import Derived.Test.YtenddmcepfkbaaaDskWalksF
import Derived.Test.YtenddmcepfkbaaaGrownTail
namespace Go.Proofs.Ytenddmcepfkbaaa
open Go.RowKit

structure Ac where
  kind : Int
  sector : Int
  byt : Int
  text : ByteArray
  odd : Bool
  after : Int
def acV (a : Ac) : Value := .agg #[.int .i64 a.kind, .int .i64 a.sector, .int .i64 a.byt, .string a.text, .bool a.odd, .int .i64 a.after]
def cyc (t : List UInt8) : List UInt8 := (List.replicate 64 t).flatten.take 64
def textV (odd : Bool) (t : ByteArray) : ByteArray := if odd then t else if t.size = 0 then t else ⟨(cyc t.data.toList).toArray⟩
theorem rep_take {t S : List UInt8} {k : Nat} (hS : S = (List.replicate k t).flatten) (hk : k ≤ 64) (hl : 64 ≤ S.length) : S.take 64 = cyc t := by
  have e : (List.replicate 64 t).flatten = S ++ (List.replicate (64 - k) t).flatten := by
    rw [hS, ← List.flatten_append, List.replicate_append_replicate]
    congr 2
    omega
  unfold cyc
  rw [e, List.take_append_of_le_length hl]
theorem cyc_len {t : List UInt8} (h : 1 ≤ t.length) : (cyc t).length = 64 := by
  unfold cyc
  rw [List.length_take, List.length_flatten]
  simp
  omega
theorem rep_snoc (t : List UInt8) (k : Nat) : (List.replicate (k + 1) t).flatten = (List.replicate k t).flatten ++ t := by
  rw [List.replicate_succ', List.flatten_append]
  simp
def strLen : Value → Nat
  | .string s => s.size
  | _ => 0

set_option maxHeartbeats 1000000 in
theorem text_any (a : Ac) (ht : a.text.size ≤ 100) (w : World) : Calls Try.prog 24 #[acV a] w fun e w' => e = .returned (.string (textV a.odd a.text)) ∧ Below w.heap.size w w' := by
  obtain ⟨kind, sector, byt, t, odd, after⟩ := a
  unfold textV acV
  simp only at ht ⊢
  cases odd
  · by_cases h0 : t.size = 0
    · have e1 : t.toList = [] := by rw [ByteArray.toList_eq]; exact List.eq_nil_of_length_eq_zero h0
      have e2 : t.toList.isEmpty = true := by rw [e1]; rfl
      simp only [Bool.false_eq_true, if_false, if_pos h0]
      clear h0
      go_enter Try.func24, Try.ntmps24
      go_wp2
      go_ret
      exact ⟨rfl, (Below.refl _ _).alloc (Nat.le_refl _) _⟩
    · have e2 : t.toList.isEmpty = false := by
        rw [ByteArray.toList_eq]
        cases hh : t.data.toList with
        | nil => exact absurd (show t.size = 0 by have : t.data.toList.length = t.size := rfl; rw [hh] at this; simpa using this.symm) h0
        | cons x l => rfl
      have e3 : ¬ t.toList = [] := fun e => by rw [e] at e2; cases e2
      simp only [Bool.false_eq_true, if_false, if_neg h0]
      have h1 : 1 ≤ t.size := by omega
      have H0 := Lib.hid h0
      clear h0
      go_enter Try.func24, Try.ntmps24
      go_wp2
      go_loop [3] (fun s => ∃ (S : ByteArray) (k : Nat), s = .string S ∧ S.size ≤ 163 ∧ k ≤ S.size ∧ k ≤ 64 ∧ Hid (S.data.toList = (List.replicate k t.data.toList).flatten)) (fun s => 64 - strLen s)
      case atStart => exact ⟨⟨#[]⟩, 0, rfl, by decide, by omega, by omega, Lib.hid rfl⟩
      case round =>
        obtain ⟨S, k, rfl, hS, hk, hk2, HS⟩ := hrel
        by_cases hlt : S.size < 64
        · have hlt' : (S.size : Int) < 64 := by omega
          go_wp2
          go_round
          case rel =>
            refine ⟨S ++ t, k + 1, rfl, by rw [ByteArray.size_append]; omega, by rw [ByteArray.size_append]; omega, by omega, Lib.hid ?_⟩
            rw [rep_snoc, ← HS.out]
            simp
          case measure =>
            show 64 - (S ++ t).size < 64 - S.size
            rw [ByteArray.size_append]
            omega
        · have hlt' : ¬ (S.size : Int) < 64 := by omega
          have hle : (64 : Int) ≤ S.size := by omega
          go_wp2
          go_ret
          refine ⟨ret_str ?_, (Below.refl _ _).alloc (Nat.le_refl _) _⟩
          apply ByteArray.ext
          apply Array.ext'
          have h2 : S.data.toList.length = S.size := rfl
          have h3 : (S.extract 0 64).data.toList = S.data.toList.take 64 := by simp
          rw [← rep_take HS.out hk2 (by omega)]
          exact h3
  · simp only [if_true]
    go_enter Try.func24, Try.ntmps24
    go_wp2
    go_ret
    exact ⟨rfl, (Below.refl _ _).alloc (Nat.le_refl _) _⟩

theorem fill_any (t : ByteArray) (ht : t.size ≤ 100) (w : World) : Calls Try.prog 28 #[.string t] w fun e w' => e = .returned (.string (textV false t)) ∧ Below w.heap.size w w' := by
  have HT := Lib.hid (text_any ⟨0, 0, 0, t, false, 0⟩ ht w)
  unfold acV at HT
  simp only at HT
  go_enter Try.func28, Try.ntmps28
  go_wp2_with fail
  refine HT.out.mono ?_
  rintro e w1 ⟨rfl, hb⟩
  go_wp2
  go_ret
  exact ⟨rfl, hb⟩

theorem size_any (x : Int) (h0 : 0 ≤ x) (h1 : x ≤ 255) (w : World) : Calls Try.prog 14 #[.int .u8 x] w fun e w' => e = .returned (.int .i64 (1 + x % 12)) ∧ w = w' := by
  have e1 : IntKind.i64.wrap x = x := by rw [IntKind.wrap_i64]; omega
  go_enter Try.func14, Try.ntmps14
  go_wp2
  go_ret
  exact ⟨rfl, rfl⟩

end Go.Proofs.Ytenddmcepfkbaaa
