/- The walk of the reader's method quoted. -/
import Derived.Test.YtocbebkcpmodnaaLexSkip
import Derived.Test.YtocbebkcpmodnaaBuilder
namespace Go.Proofs.Ytocbebkcpmodnaa
open Go.RowKit

namespace Lex
theorem str_cons {T : ByteArray} {k : Nat} (h : k < T.size) : strD (T.data.toList.drop k) =
    if T[k].toNat = 34 then some ([], T.data.toList.drop (k + 1))
    else if T[k].toNat = 10 then none
    else if T[k].toNat = 92 then
      match T.data.toList.drop (k + 1) with
      | [] => none
      | e :: r' => if e.toNat = 92 ∨ e.toNat = 34 then (strD r').map fun x => (e :: x.1, x.2) else if e.toNat = 110 then (strD r').map fun x => (10 :: x.1, x.2) else none
    else (strD (T.data.toList.drop (k + 1))).map fun x => (T[k] :: x.1, x.2) := by
  rw [drop_cons h]; conv => lhs; unfold strD
  rfl
theorem byte_eq (c : UInt8) (n : Nat) : ((c.toNat : Int) == (n : Int)) = decide (c.toNat = n) := by
  have : ((c.toNat : Int) == (n : Int)) = decide ((c.toNat : Int) = (n : Int)) := rfl
  rw [this, decide_eq_decide]; omega
/-- What has been read, ahead of what is to come. -/
def Upto (T : ByteArray) (p k : Nat) (acc : List UInt8) : Prop := strD (T.data.toList.drop p) = (strD (T.data.toList.drop k)).map fun x => (acc ++ x.1, x.2)
theorem Upto.more {T : ByteArray} {p k k' : Nat} {acc : List UInt8} {c : UInt8} (h : Upto T p k acc) (e : strD (T.data.toList.drop k) = (strD (T.data.toList.drop k')).map fun x => (c :: x.1, x.2)) : Upto T p k' (acc ++ [c]) := by
  unfold Upto at h ⊢
  rw [h, e]
  cases strD (T.data.toList.drop k') <;> simp
theorem Upto.none {T : ByteArray} {p k : Nat} {acc : List UInt8} (h : Upto T p k acc) (e : strD (T.data.toList.drop k) = none) : strD (T.data.toList.drop p) = none := by
  unfold Upto at h
  rw [h, e]; rfl
theorem Upto.some {T : ByteArray} {p k : Nat} {acc r : List UInt8} (h : Upto T p k acc) (e : strD (T.data.toList.drop k) = some ([], r)) : strD (T.data.toList.drop p) = some (acc, r) := by
  unfold Upto at h
  rw [h, e]; simp
end Lex

theorem builder_kept {T e : TypeId} {B b : Nat} {bs : List Value} {w w' : World} (h : Lib.IsBuilder T e B b bs w) (hk : ∀ g, B ≤ g → w'.heap[g]? = w.heap[g]?) : Lib.IsBuilder T e B b bs w' := by
  have key : ∀ q, Lib.BuilderAt T e B b q bs w → Lib.BuilderAt T e B b q bs w' := by
    rintro q ⟨h1, v, h2, h3, h4⟩
    refine ⟨h1, v, (hk b h1).trans h2, ?_, h4⟩
    rcases h3 with ⟨g1, g2 | ⟨g, cap, cur, rfl, hB, hc, rest⟩⟩
    · exact ⟨g1, Or.inl g2⟩
    · exact ⟨g1, Or.inr ⟨g, cap, cur, rfl, hB, (hk g hB).trans hc, rest⟩⟩
  exact h.imp (key _) (key _)
theorem byteCells_snoc (acc : List UInt8) (c : UInt8) : Lib.byteCells acc ++ [.int .u8 c.toNat] = Lib.byteCells (acc ++ [c]) := by
  unfold Lib.byteCells; simp
theorem Rd.low {w w' : World} {B b p : Nat} {T : ByteArray} (h : Rd w b T p) (hb : Below B w w') (hlt : b < B) : Rd w' b T p := (hb.block _ hlt).trans h
/-- What quoted returns, and what it leaves. -/
def QuotedPost (W : World) (b : Nat) (T : ByteArray) (p : Nat) (e : Ending) (w' : World) : Prop :=
  (Lex.strD (T.data.toList.drop (p + 1)) = none ∧ e = .returned (.tuple #[.string ⟨#[]⟩, .bool false]) ∧ Rd w' b T p ∧ Mv b W w') ∨
  ∃ t n, Lex.strD (T.data.toList.drop (p + 1)) = some (t, T.data.toList.drop n) ∧ n ≤ T.size ∧ p < n ∧ e = .returned (.tuple #[.string ⟨t.toArray⟩, .bool true]) ∧ Rd w' b T n ∧ Mv b W w'

set_option maxRecDepth 100000 in
set_option maxHeartbeats 4000000 in
theorem quoted_any (b : Nat) (T : ByteArray) (p : Nat) (hp : p < T.size) (hT : T.size ≤ 1407374883512) (W : World) (h : Rd W b T p) :
    Calls Try.prog 45 #[.pointer (some ⟨b, 0, none⟩)] W (QuotedPost W b T p) := by
  have H0 := Lib.hid h
  have hlt := h.lt
  have k1 := h.pos
  clear h
  have hNo : Hid (∀ w', Lex.strD (T.data.toList.drop (p + 1)) = none → Below W.heap.size W w' → QuotedPost W b T p (.returned (.tuple #[.string ⟨#[]⟩, .bool false])) w') := Lib.hid fun w' hs hb => Or.inl ⟨hs, rfl, H0.out.below hb, Only.of_below _ hb⟩
  go_enter Try.func45, Try.ntmps45
  go_wp2_with fail
  go_loopw [5] (fun i wr => ∃ (k : Nat) (acc : List UInt8), p + 1 ≤ k ∧ k ≤ T.size ∧ acc.length ≤ k ∧ i = .int .i64 k ∧ W.heap.size + 1 ≤ wr.heap.size ∧ Hid (Below W.heap.size W wr ∧ Lib.IsBuilder 88 5 W.heap.size W.heap.size (Lib.byteCells acc) wr ∧ Lex.Upto T (p + 1) k acc)) (fun i wr => T.size - (intOf i).toNat)
  case atStart =>
    refine ⟨p + 1, [], Nat.le_refl _, by omega, by simp, by go_num, by rw [size_alloc]; omega, Lib.hid ⟨(Below.refl _ _).alloc (Nat.le_refl _) _, Or.inl ⟨Nat.le_refl _, .slice none 0 0, ?_, World.ownsRow_nil _ _ _ _, by simp [Value.ownBlock]⟩, ?_⟩⟩
    · exact Whole.new _ _ _
    · unfold Lex.Upto
      cases Lex.strD (T.data.toList.drop (p + 1)) <;> simp
  case round =>
    obtain ⟨k, acc, hk1, hk2, hacc, rfl, hsz, HR⟩ := hrel
    have hRr : Rd wr b T p := H0.out.below HR.out.1
    have k0 := hRr.text
    have f1 := hRr.frozen 1
    have k1' := hRr.pos
    have HRr := Lib.hid hRr
    clear hRr
    by_cases hkT : k < T.size
    · have hd : decide ((k : Int) < (T.size : Int)) = true := decide_eq_true (by omega)
      have hb0 : (0 : Int) ≤ k := by omega
      have hb1 : (k : Int) < (T.size : Int) := by omega
      obtain ⟨c, Hc⟩ : ∃ c, Hid (c = T[k]) := ⟨_, Lib.hid rfl⟩
      have hTc : T[k] = c := Hc.out.symm
      have e34 := Lex.byte_eq c 34
      have e10 := Lex.byte_eq c 10
      have e92 := Lex.byte_eq c 92
      have HS := Lib.hid (Lex.str_cons hkT)
      rw [hTc] at HS
      by_cases h34 : c.toNat = 34
      · have hs := HS.out
        rw [if_pos h34] at hs
        have HU := Lib.hid (HR.out.2.2.some hs)
        rw [decide_eq_true h34] at e34
        clear h34 hs e10 e92
        go_wp2_with fail
        obtain ⟨X, HX⟩ : ∃ x, Hid (x = wr.setCell ⟨b, 1, none⟩ (.int .i64 ((k : Int) + 1))) := ⟨_, Lib.hid rfl⟩
        have HRX : Hid (Rd X b T (k + 1) ∧ Mv b W X ∧ X.heap.size = wr.heap.size) := Lib.hid (by
          rw [HX.out]
          have := HRr.out.set (k + 1)
          push_cast at this
          exact ⟨this, (Only.of_below (fun x => x = b) HR.out.1).setCell (p := ⟨b, 1, none⟩) (Or.inl rfl) _, by simp⟩)
        have hIB : Lib.IsBuilder 88 5 W.heap.size W.heap.size (Lib.byteCells acc) X := by
          rw [HX.out]
          exact builder_kept HR.out.2.1 fun g hg => Below.heap_setCell wr _ _ g (by show g ≠ b; omega)
        have hWX : W.heap.size ≤ X.heap.size := by rw [HRX.out.2.2]; omega
        rw [← HX.out]
        refine (_root_.Go.Proofs.Try.Builder_String_any W.heap.size W.heap.size acc X hIB hWX).mono ?_
        rintro e w2 ⟨rfl, hb⟩
        have HF : Hid (Rd w2 b T (k + 1) ∧ Mv b W w2) := Lib.hid ⟨HRX.out.1.low hb hlt, HRX.out.2.1.next (Only.of_low hb hWX) fun g hg => Or.inr hg⟩
        clear hb hIB hWX
        go_wp2_with fail
        go_ret2
        exact Or.inr ⟨acc, k + 1, HU.out, by omega, by omega, rfl, HF.out.1, HF.out.2⟩
      · rw [decide_eq_false h34] at e34
        by_cases h10 : c.toNat = 10
        · have hs := HS.out
          rw [if_neg h34, if_pos h10] at hs
          have HU := Lib.hid (HR.out.2.2.none hs)
          rw [decide_eq_true h10] at e10
          clear h34 h10 hs e92
          go_wp2_with fail
          go_ret2
          exact hNo.out _ HU.out HR.out.1
        · rw [decide_eq_false h10] at e10
          by_cases h92 : c.toNat = 92
          · rw [decide_eq_true h92] at e92
            have hs := HS.out
            rw [if_neg h34, if_neg h10, if_pos h92] at hs
            clear h34 h10 h92
            obtain ⟨K, HK⟩ : ∃ K, Hid (K = k + 1) := ⟨_, Lib.hid rfl⟩
            have hK : (k : Int) + 1 = (K : Int) := by rw [HK.out]; push_cast; rfl
            have hK9 : (K : Int) ≤ 140737488351233 := by omega
            by_cases hk3 : K < T.size
            · have hs1 : ((K : Int) == (T.size : Int)) = false := by
                have : ((K : Int) == (T.size : Int)) = decide ((K : Int) = (T.size : Int)) := rfl
                rw [this, decide_eq_false]; omega
              have hi1 : (K : Int) < (T.size : Int) := by omega
              have hi0 : (0 : Int) ≤ (K : Int) := by omega
              obtain ⟨d, Hd⟩ : ∃ c, Hid (c = T[K]) := ⟨_, Lib.hid rfl⟩
              have hTd : T[K] = d := Hd.out.symm
              rw [← HK.out, Lex.drop_cons hk3, hTd] at hs
              simp only [] at hs
              have d34 := Lex.byte_eq d 34
              have d92 := Lex.byte_eq d 92
              have d110 := Lex.byte_eq d 110
              by_cases g92 : d.toNat = 92
              · rw [decide_eq_true g92] at d92
                rw [if_pos (Or.inl g92)] at hs
                have HU := Lib.hid (HR.out.2.2.more hs)
                clear g92 hs d34 d110
                go_wp2_with fail
                refine (writeByte_any W.heap.size W.heap.size (Lib.byteCells acc) d.toNat wr HR.out.2.1 (by simp [Lib.byteCells]; omega) (by omega)).mono ?_
                rintro e w2 ⟨rfl, hib, hb⟩
                have hib : Lib.IsBuilder 88 5 W.heap.size W.heap.size (Lib.byteCells (acc ++ [d])) w2 := by rw [← byteCells_snoc]; exact hib
                have hsz2 := hb.size
                have HN := Lib.hid (And.intro (HR.out.1.trans hb) (And.intro hib HU.out))
                have hkK : K = k + 1 := HK.out
                clear hib hb hK
                go_wp2_with fail
                go_round
                case rel => exact ⟨K + 1, acc ++ [d], by omega, by omega, by simp; omega, by go_num, by omega, HN⟩
                case measure => simp [intOf]; omega
              · rw [decide_eq_false g92] at d92
                by_cases g34 : d.toNat = 34
                · rw [decide_eq_true g34] at d34
                  rw [if_pos (Or.inr g34)] at hs
                  have HU := Lib.hid (HR.out.2.2.more hs)
                  clear g92 g34 hs d110
                  go_wp2_with fail
                  refine (writeByte_any W.heap.size W.heap.size (Lib.byteCells acc) d.toNat wr HR.out.2.1 (by simp [Lib.byteCells]; omega) (by omega)).mono ?_
                  rintro e w2 ⟨rfl, hib, hb⟩
                  have hib : Lib.IsBuilder 88 5 W.heap.size W.heap.size (Lib.byteCells (acc ++ [d])) w2 := by rw [← byteCells_snoc]; exact hib
                  have hsz2 := hb.size
                  have HN := Lib.hid (And.intro (HR.out.1.trans hb) (And.intro hib HU.out))
                  have hkK : K = k + 1 := HK.out
                  clear hib hb hK
                  go_wp2_with fail
                  go_round
                  case rel => exact ⟨K + 1, acc ++ [d], by omega, by omega, by simp; omega, by go_num, by omega, HN⟩
                  case measure => simp [intOf]; omega
                · rw [decide_eq_false g34] at d34
                  by_cases g110 : d.toNat = 110
                  · rw [decide_eq_true g110] at d110
                    rw [if_neg (fun hx => hx.elim g92 g34), if_pos g110] at hs
                    have HU := Lib.hid (HR.out.2.2.more hs)
                    clear g92 g34 g110 hs
                    go_wp2_with fail
                    refine (writeByte_any W.heap.size W.heap.size (Lib.byteCells acc) 10 wr HR.out.2.1 (by simp [Lib.byteCells]; omega) (by omega)).mono ?_
                    rintro e w2 ⟨rfl, hib, hb⟩
                    have hib : Lib.IsBuilder 88 5 W.heap.size W.heap.size (Lib.byteCells (acc ++ [(10 : UInt8)])) w2 := by rw [← byteCells_snoc]; exact hib
                    have hsz2 := hb.size
                    have HN := Lib.hid (And.intro (HR.out.1.trans hb) (And.intro hib HU.out))
                    have hkK : K = k + 1 := HK.out
                    clear hib hb hK
                    go_wp2_with fail
                    go_round
                    case rel => exact ⟨K + 1, acc ++ [(10 : UInt8)], by omega, by omega, by simp; omega, by go_num, by omega, HN⟩
                    case measure => simp [intOf]; omega
                  · rw [decide_eq_false g110] at d110
                    rw [if_neg (fun hx => hx.elim g92 g34), if_neg g110] at hs
                    have HU := Lib.hid (HR.out.2.2.none hs)
                    clear g92 g34 g110 hs
                    go_wp2_with fail
                    go_ret2
                    exact hNo.out _ HU.out HR.out.1
            · have hs1 : ((K : Int) == (T.size : Int)) = true := by
                have : ((K : Int) == (T.size : Int)) = decide ((K : Int) = (T.size : Int)) := rfl
                rw [this, decide_eq_true]; have := HK.out; omega
              rw [List.drop_eq_nil_of_le (show T.data.toList.length ≤ k + 1 by show T.size ≤ k + 1; omega)] at hs
              have HU := Lib.hid (HR.out.2.2.none hs)
              clear hs
              go_wp2_with fail
              go_ret2
              exact hNo.out _ HU.out HR.out.1
          · rw [decide_eq_false h92] at e92
            have hs := HS.out
            rw [if_neg h34, if_neg h10, if_neg h92] at hs
            have HU := Lib.hid (HR.out.2.2.more hs)
            clear h34 h10 h92 hs
            go_wp2_with fail
            refine (writeByte_any W.heap.size W.heap.size (Lib.byteCells acc) c.toNat wr HR.out.2.1 (by simp [Lib.byteCells]; omega) (by omega)).mono ?_
            rintro e w2 ⟨rfl, hib, hb⟩
            rw [byteCells_snoc] at hib
            have hsz2 := hb.size
            have HN := Lib.hid (And.intro (HR.out.1.trans hb) (And.intro hib HU.out))
            clear hib hb
            go_wp2_with fail
            go_round
            case rel => exact ⟨k + 1, acc ++ [c], by omega, by omega, by simp; omega, by go_num, by omega, HN⟩
            case measure => simp [intOf]; omega
    · have hd : decide ((k : Int) < (T.size : Int)) = false := decide_eq_false (by omega)
      have HU : Hid (Lex.strD (T.data.toList.drop (p + 1)) = none) := Lib.hid (HR.out.2.2.none (by rw [List.drop_eq_nil_of_le (show T.data.toList.length ≤ k by show T.size ≤ k; omega)]; rfl))
      go_wp2_with fail
      go_ret2
      exact hNo.out _ HU.out HR.out.1

end Go.Proofs.Ytocbebkcpmodnaa
