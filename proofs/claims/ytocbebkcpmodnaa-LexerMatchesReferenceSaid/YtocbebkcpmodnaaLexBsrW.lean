/- The walk of strings.byteStringReplacer.Replace. -/
import Derived.Test.YtocbebkcpmodnaaLexBsr
import Derived.Deep.RegionLaw
import Derived.BigQuiet
import Derived.Laws.OwnMore
namespace Go.Proofs.Ytocbebkcpmodnaa
open Go.RowKit

namespace Lex
def cntK (t : List UInt8) : Nat → Nat
  | 0 => 0
  | 1 => Lib.countByte t 10
  | 2 => Lib.countByte t 10 + Lib.countByte t 34
  | _ => Lib.countByte t 10 + Lib.countByte t 34 + Lib.countByte t 92
theorem cntK_le (t : List UInt8) (k : Nat) : cntK t k ≤ t.length := by
  have h := enc_count t
  have h2 := enc_len t
  match k with
  | 0 => exact Nat.zero_le _
  | 1 => show Lib.countByte t 10 ≤ _; omega
  | 2 => show Lib.countByte t 10 + Lib.countByte t 34 ≤ _; omega
  | n + 3 => show Lib.countByte t 10 + Lib.countByte t 34 + Lib.countByte t 92 ≤ _; omega
theorem cntK_step (t : List UInt8) {k : Nat} (h : k < 3) : ∃ c : UInt8, ∃ q, (#[.string ⟨#[10]⟩, .string ⟨#[34]⟩, .string ⟨#[92]⟩] : Array Value)[k]? = some (.string ⟨#[c]⟩) ∧ repB c.toNat = [92, q] ∧ cntK t (k + 1) = cntK t k + Lib.countByte t c := by
  match k, h with
  | 0, _ => exact ⟨10, 110, rfl, rfl, (Nat.zero_add _).symm⟩
  | 1, _ => exact ⟨34, 34, rfl, rfl, rfl⟩
  | 2, _ => exact ⟨92, 92, rfl, rfl, rfl⟩
end Lex
theorem take_set_next {α : Type} (l : List α) {j : Nat} (v : α) (h : j < l.length) : (l.set j v).take (j + 1) = l.take j ++ [v] := by
  rw [List.take_add_one, List.getElem?_set_self h, List.take_set, List.set_eq_of_length_le (by rw [List.length_take]; omega)]
  rfl
theorem take_splice {α : Type} (L : List α) (off : Nat) (cs : List α) (h : off ≤ L.length) : (splice L off cs).take (off + cs.length) = L.take off ++ cs := by
  unfold splice
  rw [← List.append_assoc]
  exact List.take_left' (by rw [List.length_append, List.length_take]; omega)
theorem byteCells_app (a b : List UInt8) : Lib.byteCells (a ++ b) = Lib.byteCells a ++ Lib.byteCells b := by unfold Lib.byteCells; rw [List.map_append]
theorem below_drewN (w : World) (n : Nat) : Below w.heap.size w (w.drewN n) := by
  have e : ∀ n, (w.drewN n).os = w.os ∧ (w.drewN n).tape = w.tape ∧ (w.drewN n).output = w.output ∧ (w.drewN n).heap = w.heap := fun n => by
    induction n with
    | zero => exact ⟨rfl, rfl, rfl, rfl⟩
    | succ n ih => exact ih
  exact ⟨(e n).1, (e n).2.1, (e n).2.2.1, by rw [(e n).2.2.2]; exact Nat.le_refl _, fun k _ => by rw [(e n).2.2.2]⟩

set_option maxRecDepth 100000 in
set_option maxHeartbeats 4000000 in
theorem bsr_any (T X : Nat) (cs : Array Value) (S : ByteArray) (hS : S.size ≤ 100000000) (W : World) (h : Tab W T cs X) :
    Calls Try.prog 113 #[.pointer (some ⟨T, 0, none⟩), .string S] W fun e w' => e = .returned (.string ⟨(Lex.enc S.data.toList).toArray⟩) ∧ Below W.heap.size W w' := by
  have H0 := Lib.hid h
  have kl : W.cell? ⟨T, 256, none⟩ = some (.slice (some ⟨X, 0, none⟩) 3 3) := (h.row.cell 256).trans h.list
  have hlt := h.row.lt
  have hz := Lib.hid h.size
  clear h
  have hSl : S.data.toList.length = S.size := rfl
  have HL := Lib.hid (Lex.enc_len S.data.toList)
  obtain ⟨i1, hi1⟩ : ∃ i, (Try.prog.info? 5) = some i := ⟨_, rfl⟩
  have hy0 : i1.zero = some (.int .u8 0) := by
    have : (Try.prog.info? 5).bind (·.zero) = some (.int .u8 0) := by kernel_rfl
    rw [hi1] at this; exact this
  have hy1 : i1.size = 1 := by
    have : (Try.prog.info? 5).map (·.size) = some 1 := by kernel_rfl
    rw [hi1] at this; exact Option.some.inj this
  have hy2 : i1.bytes = 1 := by
    have : (Try.prog.info? 5).map (·.bytes) = some 1 := by kernel_rfl
    rw [hi1] at this; exact Option.some.inj this
  go_enter Try.func113, Try.ntmps113
  by_cases hbig : 24 ≤ S.size
  · have hdb : decide ((24 : Int) ≤ (S.size : Int)) = true := decide_eq_true (by omega)
    go_wp2_with fail
    go_loopw [32, 5, 6] (fun i n c wr => ∃ k : Nat, k ≤ 3 ∧ Hid (Below W.heap.size W wr) ∧ i = .int .i64 k ∧ n = .int .i64 ((S.size + Lex.cntK S.data.toList k : Nat) : Int) ∧ c = .bool (decide (Lex.cntK S.data.toList k ≠ 0))) (fun i _ _ _ => 3 - (intOf i).toNat)
    case atStart => exact ⟨0, Nat.zero_le _, Lib.hid (Below.refl _ _), by go_num, by go_num, rfl⟩
    case round =>
      obtain ⟨k, hk, HBr, rfl, rfl, rfl⟩ := hrel
      have HT := Lib.hid (H0.out.below HBr.out)
      by_cases hk3 : k < 3
      · have hd : decide ((k : Int) < 3) = true := decide_eq_true (by omega)
        have hb0 : (0 : Int) ≤ k := by omega
        have hb1 : (k : Int) < 3 := by omega
        obtain ⟨c, q, hc1, hrep, hstep⟩ := Lex.cntK_step S.data.toList hk3
        obtain ⟨x, Hx⟩ : ∃ x : ByteArray, Hid (x = ⟨#[c]⟩) := ⟨_, Lib.hid rfl⟩
        have hx1 : x.size = 1 := by rw [Hx.out]; rfl
        have hx0 : x[0]'(by omega) = c := by
          have := Hx.out
          subst this; rfl
        have kx : wr.cell? ⟨X, k, none⟩ = some (.string x) := by rw [Hx.out]; exact (HT.out.texts.cell k).trans hc1
        obtain ⟨b, cap, ht, hbl, hb92, hbq⟩ := HT.out.yes c.toNat q c.toNat_lt hrep
        have kt : wr.cell? ⟨T, c.toNat, none⟩ = some (.slice (some ⟨b, 0, none⟩) 2 cap) := (HT.out.row.cell _).trans ht
        obtain ⟨m, Hm⟩ : ∃ m, Hid (m = Lib.countByte S.data.toList c) := ⟨_, Lib.hid rfl⟩
        obtain ⟨n, Hn⟩ : ∃ n, Hid (n = S.size + Lex.cntK S.data.toList k) := ⟨_, Lib.hid rfl⟩
        have hm : m ≤ 100000000 := by
          have h1 := Lex.cntK_le S.data.toList (k + 1)
          rw [hstep, ← Hm.out] at h1; omega
        have hn : n ≤ 200000000 := by
          have h1 := Lex.cntK_le S.data.toList k
          rw [Hn.out]; omega
        have hc256 : (c.toNat : Int) < 256 := by have := c.toNat_lt; omega
        have hc0 : (0 : Int) ≤ c.toNat := by omega
        have HS := Lib.hid hstep
        have HC := Lib.hid (_root_.Go.Proofs.Try.strings_Count_one S c wr)
        rw [← Hm.out] at HS HC
        rw [← Hx.out] at HC
        rw [← Hn.out]
        clear hc1 hrep ht hb92 hbq hstep
        by_cases hm0 : m = 0
        · have hd2 : ((m : Int) == 0) = true := by rw [hm0]; rfl
          go_wp2_with fail
          refine HC.out.mono ?_
          rintro e w2 ⟨rfl, hw2⟩
          subst hw2
          go_wp2_with fail
          go_round
          case rel =>
            refine ⟨k + 1, by omega, HBr, by go_num, ?_, ?_⟩
            · rw [HS.out, hm0, Nat.add_zero, Hn.out]
            · rw [HS.out, hm0, Nat.add_zero, decide_not]
          case measure => simp [intOf]; omega
        · have hd2 : ((m : Int) == 0) = false := by
            have : ((m : Int) == 0) = decide ((m : Int) = 0) := rfl
            rw [this, decide_eq_false]; omega
          go_wp2_with fail
          refine HC.out.mono ?_
          rintro e w2 ⟨rfl, hw2⟩
          subst hw2
          go_wp2_with fail
          go_quiet (fail)
          go_wp2_with fail
          go_round
          case rel =>
            refine ⟨k + 1, by omega, Lib.hid (HBr.out.trans ((below_drewN w2 nq).mono HBr.out.size)), by go_num, ?_, ?_⟩
            · rw [HS.out, Hn.out]; go_num
            · rw [HS.out, decide_eq_true]; omega
          case measure => simp [intOf]; omega
      · have hk33 : k = 3 := by omega
        subst hk33
        have hd : decide ((3 : Int) < 3) = false := rfl
        have e1 : ((S.size + Lex.cntK S.data.toList 3 : Nat) : Int) = ((Lex.enc S.data.toList).length : Nat) := by rw [Lex.enc_count]; congr 1; show _ + (_ + _ + _) = _; rw [hSl]; omega
        have e2 : decide (Lex.cntK S.data.toList 3 ≠ 0) = decide ((Lex.enc S.data.toList).length ≠ S.size) := by
          rw [decide_eq_decide, Lex.enc_count, hSl]; show (_ + _ + _ ≠ 0) ↔ _; omega
        rw [e1, e2]
        clear e1 e2 hd
        obtain ⟨N, HN⟩ : ∃ N, Hid (N = (Lex.enc S.data.toList).length) := ⟨_, Lib.hid rfl⟩
        rw [← HN.out]
        have hN1 : S.size ≤ N := by have := HL.out.1; rw [HN.out]; exact this
        have hN2 : N ≤ 200000000 := by have := HL.out.2; rw [HN.out]; omega
        have hWs := Lib.hid HBr.out.size
        obtain ⟨w1, Hw1⟩ : ∃ w1, Hid (w1 = wr) := ⟨_, Lib.hid rfl⟩
        have HB1 : Hid (Below W.heap.size W w1) := Lib.hid (by rw [Hw1.out]; exact HBr.out)
        rw [← Hw1.out]
        clear Hw1 hWs
        by_cases hch : N = S.size
        · have hd3 : decide (N ≠ S.size) = false := decide_eq_false (by omega)
          have HE := Lib.hid (Lex.enc_same S.data.toList (by rw [← HN.out]; exact hch))
          rw [hd3]
          go_wp2_with fail
          go_ret
          refine ⟨?_, HB1.out⟩
          rw [HE.out, Array.toArray_toList]
          rfl
        · have hd3 : decide (N ≠ S.size) = true := decide_eq_true (by omega)
          rw [hd3]
          go_wp2_with (at_make; refine wpList_make_full _ rfl _ _ 86 rfl w1.heap.size 5 i1 (.int .u8 0) 1 Try.underlying86 hi1 hy0 hy1 .i64 .i64 _ _ N rfl rfl rfl rfl (by rw [hy2]; omega) (by unfold maxLen; omega) (Nat.le_refl _) ?_; intro w3 hown hgr; have HO := Lib.hid hown; have HG := Lib.hid hgr; clear hown hgr)
          have HW3 : Hid (Whole w3 w1.heap.size 5 (List.replicate N (Value.int .u8 0)).toArray) := Lib.hid (by
            rcases HO.out.2 with ⟨hh, _⟩ | ⟨g, cap, cur, hv, _, hc, _, _, hcs, htk⟩
            · simp at hh
            · simp only [Value.slice.injEq, Option.some.injEq, Addr.mk.injEq, and_true] at hv
              obtain ⟨rfl, -, rfl⟩ := hv
              have e : (madeCells (Value.int .u8 0).cells (N * 1)).toList = List.replicate N (Value.int .u8 0) := by rw [Nat.mul_one]; exact toList_madeCells_one _ _
              rw [e] at htk
              have e2 : cur = (List.replicate N (Value.int .u8 0)).toArray := by
                apply Array.ext'
                have h3 : cur.toList.take (N * 1) = cur.toList := List.take_of_length_le (by rw [Array.length_toList, hcs]; omega)
                rw [h3] at htk
                rw [htk]
              rw [← e2]
              exact hc)
          have HB3 : Hid (Below W.heap.size W w3) := Lib.hid (HB1.out.trans ((show Below w1.heap.size w1 w3 from ⟨HG.out.os, HG.out.tape, HG.out.output, HG.out.size, fun k hk => HG.out.block k hk (by simp)⟩).mono HB1.out.size))
          obtain ⟨Bf, HBf⟩ : ∃ x, Hid (x = w1.heap.size) := ⟨_, Lib.hid rfl⟩
          have hWB : W.heap.size ≤ Bf := by rw [HBf.out]; exact HB1.out.size
          rw [← HBf.out]
          rw [← HBf.out] at HW3
          clear HBf HO HG HB1
          go_loopw [14, 13] (fun i j wr => ∃ (k : Nat) (cur : List Value), k ≤ S.size ∧ i = .int .i64 k ∧ j = .int .i64 ((Lex.enc (S.data.toList.take k)).length : Nat) ∧ Hid (Below W.heap.size W wr ∧ Whole wr Bf 5 cur.toArray ∧ cur.length = N ∧ cur.take (Lex.enc (S.data.toList.take k)).length = Lib.byteCells (Lex.enc (S.data.toList.take k)))) (fun i _ _ => S.size - (intOf i).toNat)
          case atStart => exact ⟨0, List.replicate N (.int .u8 0), Nat.zero_le _, by go_num, by rw [List.take_zero, Lex.enc_nil]; go_num, Lib.hid ⟨HB3.out, HW3.out, List.length_replicate, by rw [List.take_zero, Lex.enc_nil]; rfl⟩⟩
          case round =>
            clear HW3 HB3 HBr HT
            obtain ⟨k, cur, hk, rfl, rfl, HR⟩ := hrel
            have HT := Lib.hid (H0.out.below HR.out.1)
            by_cases hkS : k < S.size
            · have hd : decide ((k : Int) < (S.size : Int)) = true := decide_eq_true (by omega)
              have hb0 : (0 : Int) ≤ k := by omega
              have hb1 : (k : Int) < (S.size : Int) := by omega
              obtain ⟨c, Hc⟩ : ∃ c, Hid (c = S[k]) := ⟨_, Lib.hid rfl⟩
              have hTc : S[k] = c := Hc.out.symm
              have hc256 : (c.toNat : Int) < 256 := by have := c.toNat_lt; omega
              have hc0 : (0 : Int) ≤ c.toNat := by omega
              have HS := Lib.hid (Lex.enc_take hkS)
              rw [hTc] at HS
              obtain ⟨J, HJ⟩ : ∃ J, Hid (J = (Lex.enc (S.data.toList.take k)).length) := ⟨_, Lib.hid rfl⟩
              have HNk : Hid (J + (Lex.encC c).length ≤ N) := Lib.hid (by
                have h1 : S.data.toList = S.data.toList.take (k + 1) ++ S.data.toList.drop (k + 1) := (List.take_append_drop _ _).symm
                have h2 : Lex.enc S.data.toList = Lex.enc (S.data.toList.take (k + 1)) ++ Lex.enc (S.data.toList.drop (k + 1)) := by
                  conv => lhs; rw [h1]
                  unfold Lex.enc; rw [List.flatMap_append]
                rw [HN.out, h2, HS.out, List.length_append, List.length_append, HJ.out]; omega)
              rw [← HJ.out] at HR
              rw [← HJ.out]
              rcases Lex.rep_two c.toNat with hr | ⟨q, hr⟩
              · have kt : wr.cell? ⟨T, c.toNat, none⟩ = some (.slice none 0 0) := (HT.out.row.cell _).trans (HT.out.no _ c.toNat_lt hr)
                have hec : Lex.encC c = [c] := by rw [Lex.encC_rep, if_pos hr]
                rw [hec] at HS HNk
                have hJ1 : (J : Int) < (N : Int) := by have := HNk.out; simp at this; omega
                have hJ0 : (0 : Int) ≤ J := by omega
                have hJc : J < cur.length := by rw [HR.out.2.2.1]; omega
                have kb : wr.cell? ⟨Bf, J, none⟩ = some cur[J] := by rw [HR.out.2.1.cell, List.getElem?_toArray, List.getElem?_eq_getElem hJc]
                have kf : wr.frozen? ⟨Bf, J, none⟩ = false := HR.out.2.1.frozen _
                clear hr hec
                go_wp2_with fail
                go_round
                case rel =>
                  refine ⟨k + 1, cur.set J (.int .u8 c.toNat), by omega, by go_num, ?_, Lib.hid ⟨HR.out.1.setCell (p := ⟨Bf, J, none⟩) hWB _, ?_, by rw [List.length_set]; exact HR.out.2.2.1, ?_⟩⟩
                  · rw [HS.out, List.length_append, ← HJ.out]; go_num
                  · have := HR.out.2.1.set J (.int .u8 c.toNat)
                    rwa [List.setIfInBounds_toArray] at this
                  · rw [HS.out, List.length_append, ← HJ.out]
                    show (cur.set J _).take (J + 1) = _
                    rw [take_set_next _ _ hJc, HR.out.2.2.2, byteCells_app]; rfl
                case measure => simp [intOf]; omega
              · obtain ⟨b, cap, ht, hbl, hb92, hbq⟩ := HT.out.yes c.toNat q c.toNat_lt hr
                have kt : wr.cell? ⟨T, c.toNat, none⟩ = some (.slice (some ⟨b, 0, none⟩) 2 cap) := (HT.out.row.cell _).trans ht
                have hec : Lex.encC c = [92, q] := by rw [Lex.encC_rep, if_neg (by rw [hr]; simp), hr]
                rw [hec] at HS HNk
                have hJ1 : (J : Int) ≤ (N : Int) := by have := HNk.out; simp at this; omega
                have hJ2 : J + 2 ≤ N := HNk.out
                have hJ0 : (0 : Int) ≤ J := by omega
                have hJc : J + 2 ≤ cur.length := by rw [HR.out.2.2.1]; omega
                have HSP : Hid (∀ j v, [Value.int .u8 92, Value.int .u8 q.toNat][j]? = some v → wr.cell? (Addr.add ⟨b, 0, none⟩ j) = some v) := Lib.hid (by
                  intro j v hv
                  match j, hv with
                  | 0, hv => exact hb92.trans hv
                  | 1, hv => exact hbq.trans hv)
                clear hr hec ht hb92 hbq
                go_wp2_with fail
                obtain ⟨w4, hcp, HW4⟩ : ∃ w4, (Builtin.copy_ #[86, 86] 3 #[.slice (some ⟨Bf, J, none⟩) (N - J) (N - J), .slice (some ⟨b, 0, none⟩) 2 cap]).run Try.prog wr.drew = .ok (.int .i64 2) w4 ∧ Hid (Whole w4 Bf 5 (splice cur J [.int .u8 92, .int .u8 q.toNat]).toArray ∧ Below W.heap.size W w4) := by
                  refine ⟨_, run_copy_row _ wr.drew 86 86 3 5 Bf J (N - J) (N - J) ⟨b, 0, none⟩ 2 cap cur.toArray 5 [.int .u8 92, .int .u8 q.toNat] Try.underlying86 (by kernel_rfl) HR.out.2.1 ?_ HSP.out (by simpa using hJc) (by simp [Value.oneCell']), Lib.hid ⟨?_, ?_⟩⟩
                  · show 2 = min 2 (N - J); omega
                  · have := setRow_heap wr.drew Bf _ (splice cur J [.int .u8 92, .int .u8 q.toNat]).toArray _ _ HR.out.2.1
                    unfold splice at this ⊢
                    rw [← List.append_assoc] at this ⊢
                    exact this
                  · exact below_setRow HR.out.1.drew hWB _
                have hNJ : ¬ N = J := by omega
                have HJn := Lib.hid hJ2
                clear hJ2
                go_region
                all_goals (go_wp2_with fail)
                all_goals go_round
                case rel =>
                  refine ⟨k + 1, splice cur J [.int .u8 92, .int .u8 q.toNat], by omega, by go_num, ?_, Lib.hid ⟨HW4.out.2, HW4.out.1, by rw [length_splice _ _ _ hJc]; exact HR.out.2.2.1, ?_⟩⟩
                  · rw [HS.out, List.length_append, ← HJ.out]; have := HJn.out; go_num
                  · rw [HS.out, List.length_append, ← HJ.out]
                    have h1 := take_splice cur J [Value.int .u8 92, Value.int .u8 q.toNat] (by omega)
                    show (splice cur J _).take (J + 2) = _
                    refine h1.trans ?_
                    rw [HR.out.2.2.2, byteCells_app]; rfl
                case measure => simp [intOf]; omega
            · have hkk : k = S.size := by omega
              have hd : decide ((k : Int) < (S.size : Int)) = false := decide_eq_false (by omega)
              have e0 : S.data.toList.take k = S.data.toList := List.take_of_length_le (by omega)
              rw [e0, ← HN.out] at HR
              have hcv : (convert 86 9 (.slice (some ⟨Bf, 0, none⟩) N N)).run Try.prog wr = .ok (.string ⟨(Lex.enc S.data.toList).toArray⟩) wr := by
                conv => lhs; rw [HN.out]
                refine run_convert_bytes_back wr 86 9 5 ⟨Bf, 0, none⟩ _ _ Try.underlying86 Try.underlying5 Try.underlying9 fun j hj => ?_
                have hjN : j < N := by rw [HN.out]; exact hj
                have h1 : cur[j]? = some (.int .u8 ((Lex.enc S.data.toList)[j].toNat : Int)) := by
                  have h2 : (cur.take N)[j]? = (Lib.byteCells (Lex.enc S.data.toList))[j]? := by rw [HR.out.2.2.2]
                  rw [List.getElem?_take_of_lt hjN] at h2
                  rw [h2]; unfold Lib.byteCells; rw [List.getElem?_map, List.getElem?_eq_getElem hj]; rfl
                have h3 := HR.out.2.1.cell j
                rw [List.getElem?_toArray, h1] at h3
                have e : Addr.add ⟨Bf, 0, none⟩ j = ⟨Bf, j, none⟩ := by cases j <;> simp [Addr.add]
                rw [e]; exact h3
              go_wp2_with fail
              go_ret
              exact ⟨rfl, HR.out.1⟩
  · have hdb : decide ((24 : Int) ≤ (S.size : Int)) = false := decide_eq_false (by omega)
    go_wp2_with fail
    go_loopw [10, 5, 6] (fun i n c wr => ∃ k : Nat, k ≤ S.size ∧ Hid (Below W.heap.size W wr) ∧ i = .int .i64 k ∧ n = .int .i64 (((Lex.enc (S.data.toList.take k)).length + (S.size - k) : Nat) : Int) ∧ c = .bool (decide ((Lex.enc (S.data.toList.take k)).length ≠ k))) (fun i _ _ _ => S.size - (intOf i).toNat)
    case atStart => exact ⟨0, Nat.zero_le _, Lib.hid (Below.refl _ _), by go_num, by rw [List.take_zero, Lex.enc_nil]; simp, by rw [List.take_zero, Lex.enc_nil]; rfl⟩
    case round =>
      obtain ⟨k, hk, HBr, rfl, rfl, rfl⟩ := hrel
      have HT := Lib.hid (H0.out.below HBr.out)
      by_cases hkS : k < S.size
      · have hd : decide ((k : Int) < (S.size : Int)) = true := decide_eq_true (by omega)
        have hb0 : (0 : Int) ≤ k := by omega
        have hb1 : (k : Int) < (S.size : Int) := by omega
        obtain ⟨c, Hc⟩ : ∃ c, Hid (c = S[k]) := ⟨_, Lib.hid rfl⟩
        have hTc : S[k] = c := Hc.out.symm
        have hc256 : (c.toNat : Int) < 256 := by have := c.toNat_lt; omega
        have hc0 : (0 : Int) ≤ c.toNat := by omega
        have HS := Lib.hid (Lex.enc_take hkS)
        rw [hTc] at HS
        have HLk := Lib.hid (Lex.enc_len (S.data.toList.take k))
        have htk : (S.data.toList.take k).length = k := by rw [List.length_take]; omega
        rw [htk] at HLk
        obtain ⟨n, Hn⟩ : ∃ n, Hid (n = (Lex.enc (S.data.toList.take k)).length + (S.size - k)) := ⟨_, Lib.hid rfl⟩
        have hn : n ≤ 200000000 := by have := HLk.out; rw [Hn.out]; omega
        rw [← Hn.out]
        rcases Lex.rep_two c.toNat with hr | ⟨q, hr⟩
        · have kt : wr.cell? ⟨T, c.toNat, none⟩ = some (.slice none 0 0) := (HT.out.row.cell _).trans (HT.out.no _ c.toNat_lt hr)
          have he : (Lex.enc (S.data.toList.take (k + 1))).length = (Lex.enc (S.data.toList.take k)).length + 1 := by
            rw [HS.out, List.length_append, Lex.encC_rep, if_pos hr]; rfl
          have HE := Lib.hid he
          clear hr he htk
          go_wp2_with fail
          go_round
          case rel =>
            refine ⟨k + 1, by omega, HBr, by go_num, ?_, ?_⟩
            · rw [HE.out, Hn.out]; congr 2; omega
            · rw [HE.out]; congr 1; rw [decide_eq_decide]; omega
          case measure => simp [intOf]; omega
        · obtain ⟨b, cap, ht, hbl, hb92, hbq⟩ := HT.out.yes c.toNat q c.toNat_lt hr
          have kt : wr.cell? ⟨T, c.toNat, none⟩ = some (.slice (some ⟨b, 0, none⟩) 2 cap) := (HT.out.row.cell _).trans ht
          have he : (Lex.enc (S.data.toList.take (k + 1))).length = (Lex.enc (S.data.toList.take k)).length + 2 := by
            rw [HS.out, List.length_append, Lex.encC_rep, if_neg (by rw [hr]; simp), hr]; rfl
          have HE := Lib.hid he
          clear hr he htk ht hbl hb92 hbq
          go_wp2_with fail
          go_round
          case rel =>
            refine ⟨k + 1, by omega, HBr, by go_num, ?_, ?_⟩
            · rw [HE.out]; have := Hn.out; have := HLk.out; go_num
            · rw [HE.out, decide_eq_true]; have := HLk.out; omega
          case measure => simp [intOf]; omega
      · have hkk : k = S.size := by omega
        have hd : decide ((k : Int) < (S.size : Int)) = false := decide_eq_false (by omega)
        have e0 : S.data.toList.take k = S.data.toList := List.take_of_length_le (by omega)
        have e1 : (((Lex.enc (S.data.toList.take k)).length + (S.size - k) : Nat) : Int) = ((Lex.enc S.data.toList).length : Nat) := by rw [e0]; congr 1; omega
        have e2 : decide ((Lex.enc (S.data.toList.take k)).length ≠ k) = decide ((Lex.enc S.data.toList).length ≠ S.size) := by rw [e0, hkk]
        rw [e1, e2]
        clear e0 e1 e2
        obtain ⟨N, HN⟩ : ∃ N, Hid (N = (Lex.enc S.data.toList).length) := ⟨_, Lib.hid rfl⟩
        rw [← HN.out]
        have hN1 : S.size ≤ N := by have := HL.out.1; rw [HN.out]; exact this
        have hN2 : N ≤ 200000000 := by have := HL.out.2; rw [HN.out]; omega
        have hWs := Lib.hid HBr.out.size
        obtain ⟨w1, Hw1⟩ : ∃ w1, Hid (w1 = wr) := ⟨_, Lib.hid rfl⟩
        have HB1 : Hid (Below W.heap.size W w1) := Lib.hid (by rw [Hw1.out]; exact HBr.out)
        rw [← Hw1.out]
        clear Hw1 hWs
        by_cases hch : N = S.size
        · have hd3 : decide (N ≠ S.size) = false := decide_eq_false (by omega)
          have HE := Lib.hid (Lex.enc_same S.data.toList (by rw [← HN.out]; exact hch))
          rw [hd3]
          go_wp2_with fail
          go_ret
          refine ⟨?_, HB1.out⟩
          rw [HE.out, Array.toArray_toList]
          rfl
        · have hd3 : decide (N ≠ S.size) = true := decide_eq_true (by omega)
          rw [hd3]
          go_wp2_with (at_make; refine wpList_make_full _ rfl _ _ 86 rfl w1.heap.size 5 i1 (.int .u8 0) 1 Try.underlying86 hi1 hy0 hy1 .i64 .i64 _ _ N rfl rfl rfl rfl (by rw [hy2]; omega) (by unfold maxLen; omega) (Nat.le_refl _) ?_; intro w3 hown hgr; have HO := Lib.hid hown; have HG := Lib.hid hgr; clear hown hgr)
          have HW3 : Hid (Whole w3 w1.heap.size 5 (List.replicate N (Value.int .u8 0)).toArray) := Lib.hid (by
            rcases HO.out.2 with ⟨hh, _⟩ | ⟨g, cap, cur, hv, _, hc, _, _, hcs, htk⟩
            · simp at hh
            · simp only [Value.slice.injEq, Option.some.injEq, Addr.mk.injEq, and_true] at hv
              obtain ⟨rfl, -, rfl⟩ := hv
              have e : (madeCells (Value.int .u8 0).cells (N * 1)).toList = List.replicate N (Value.int .u8 0) := by rw [Nat.mul_one]; exact toList_madeCells_one _ _
              rw [e] at htk
              have e2 : cur = (List.replicate N (Value.int .u8 0)).toArray := by
                apply Array.ext'
                have h3 : cur.toList.take (N * 1) = cur.toList := List.take_of_length_le (by rw [Array.length_toList, hcs]; omega)
                rw [h3] at htk
                rw [htk]
              rw [← e2]
              exact hc)
          have HB3 : Hid (Below W.heap.size W w3) := Lib.hid (HB1.out.trans ((show Below w1.heap.size w1 w3 from ⟨HG.out.os, HG.out.tape, HG.out.output, HG.out.size, fun k hk => HG.out.block k hk (by simp)⟩).mono HB1.out.size))
          obtain ⟨Bf, HBf⟩ : ∃ x, Hid (x = w1.heap.size) := ⟨_, Lib.hid rfl⟩
          have hWB : W.heap.size ≤ Bf := by rw [HBf.out]; exact HB1.out.size
          rw [← HBf.out]
          rw [← HBf.out] at HW3
          clear HBf HO HG HB1
          go_loopw [14, 13] (fun i j wr => ∃ (k : Nat) (cur : List Value), k ≤ S.size ∧ i = .int .i64 k ∧ j = .int .i64 ((Lex.enc (S.data.toList.take k)).length : Nat) ∧ Hid (Below W.heap.size W wr ∧ Whole wr Bf 5 cur.toArray ∧ cur.length = N ∧ cur.take (Lex.enc (S.data.toList.take k)).length = Lib.byteCells (Lex.enc (S.data.toList.take k)))) (fun i _ _ => S.size - (intOf i).toNat)
          case atStart => exact ⟨0, List.replicate N (.int .u8 0), Nat.zero_le _, by go_num, by rw [List.take_zero, Lex.enc_nil]; go_num, Lib.hid ⟨HB3.out, HW3.out, List.length_replicate, by rw [List.take_zero, Lex.enc_nil]; rfl⟩⟩
          case round =>
            clear HW3 HB3 HBr HT
            obtain ⟨k, cur, hk, rfl, rfl, HR⟩ := hrel
            have HT := Lib.hid (H0.out.below HR.out.1)
            by_cases hkS : k < S.size
            · have hd : decide ((k : Int) < (S.size : Int)) = true := decide_eq_true (by omega)
              have hb0 : (0 : Int) ≤ k := by omega
              have hb1 : (k : Int) < (S.size : Int) := by omega
              obtain ⟨c, Hc⟩ : ∃ c, Hid (c = S[k]) := ⟨_, Lib.hid rfl⟩
              have hTc : S[k] = c := Hc.out.symm
              have hc256 : (c.toNat : Int) < 256 := by have := c.toNat_lt; omega
              have hc0 : (0 : Int) ≤ c.toNat := by omega
              have HS := Lib.hid (Lex.enc_take hkS)
              rw [hTc] at HS
              obtain ⟨J, HJ⟩ : ∃ J, Hid (J = (Lex.enc (S.data.toList.take k)).length) := ⟨_, Lib.hid rfl⟩
              have HNk : Hid (J + (Lex.encC c).length ≤ N) := Lib.hid (by
                have h1 : S.data.toList = S.data.toList.take (k + 1) ++ S.data.toList.drop (k + 1) := (List.take_append_drop _ _).symm
                have h2 : Lex.enc S.data.toList = Lex.enc (S.data.toList.take (k + 1)) ++ Lex.enc (S.data.toList.drop (k + 1)) := by
                  conv => lhs; rw [h1]
                  unfold Lex.enc; rw [List.flatMap_append]
                rw [HN.out, h2, HS.out, List.length_append, List.length_append, HJ.out]; omega)
              rw [← HJ.out] at HR
              rw [← HJ.out]
              rcases Lex.rep_two c.toNat with hr | ⟨q, hr⟩
              · have kt : wr.cell? ⟨T, c.toNat, none⟩ = some (.slice none 0 0) := (HT.out.row.cell _).trans (HT.out.no _ c.toNat_lt hr)
                have hec : Lex.encC c = [c] := by rw [Lex.encC_rep, if_pos hr]
                rw [hec] at HS HNk
                have hJ1 : (J : Int) < (N : Int) := by have := HNk.out; simp at this; omega
                have hJ0 : (0 : Int) ≤ J := by omega
                have hJc : J < cur.length := by rw [HR.out.2.2.1]; omega
                have kb : wr.cell? ⟨Bf, J, none⟩ = some cur[J] := by rw [HR.out.2.1.cell, List.getElem?_toArray, List.getElem?_eq_getElem hJc]
                have kf : wr.frozen? ⟨Bf, J, none⟩ = false := HR.out.2.1.frozen _
                clear hr hec
                go_wp2_with fail
                go_round
                case rel =>
                  refine ⟨k + 1, cur.set J (.int .u8 c.toNat), by omega, by go_num, ?_, Lib.hid ⟨HR.out.1.setCell (p := ⟨Bf, J, none⟩) hWB _, ?_, by rw [List.length_set]; exact HR.out.2.2.1, ?_⟩⟩
                  · rw [HS.out, List.length_append, ← HJ.out]; go_num
                  · have := HR.out.2.1.set J (.int .u8 c.toNat)
                    rwa [List.setIfInBounds_toArray] at this
                  · rw [HS.out, List.length_append, ← HJ.out]
                    show (cur.set J _).take (J + 1) = _
                    rw [take_set_next _ _ hJc, HR.out.2.2.2, byteCells_app]; rfl
                case measure => simp [intOf]; omega
              · obtain ⟨b, cap, ht, hbl, hb92, hbq⟩ := HT.out.yes c.toNat q c.toNat_lt hr
                have kt : wr.cell? ⟨T, c.toNat, none⟩ = some (.slice (some ⟨b, 0, none⟩) 2 cap) := (HT.out.row.cell _).trans ht
                have hec : Lex.encC c = [92, q] := by rw [Lex.encC_rep, if_neg (by rw [hr]; simp), hr]
                rw [hec] at HS HNk
                have hJ1 : (J : Int) ≤ (N : Int) := by have := HNk.out; simp at this; omega
                have hJ2 : J + 2 ≤ N := HNk.out
                have hJ0 : (0 : Int) ≤ J := by omega
                have hJc : J + 2 ≤ cur.length := by rw [HR.out.2.2.1]; omega
                have HSP : Hid (∀ j v, [Value.int .u8 92, Value.int .u8 q.toNat][j]? = some v → wr.cell? (Addr.add ⟨b, 0, none⟩ j) = some v) := Lib.hid (by
                  intro j v hv
                  match j, hv with
                  | 0, hv => exact hb92.trans hv
                  | 1, hv => exact hbq.trans hv)
                clear hr hec ht hb92 hbq
                go_wp2_with fail
                obtain ⟨w4, hcp, HW4⟩ : ∃ w4, (Builtin.copy_ #[86, 86] 3 #[.slice (some ⟨Bf, J, none⟩) (N - J) (N - J), .slice (some ⟨b, 0, none⟩) 2 cap]).run Try.prog wr.drew = .ok (.int .i64 2) w4 ∧ Hid (Whole w4 Bf 5 (splice cur J [.int .u8 92, .int .u8 q.toNat]).toArray ∧ Below W.heap.size W w4) := by
                  refine ⟨_, run_copy_row _ wr.drew 86 86 3 5 Bf J (N - J) (N - J) ⟨b, 0, none⟩ 2 cap cur.toArray 5 [.int .u8 92, .int .u8 q.toNat] Try.underlying86 (by kernel_rfl) HR.out.2.1 ?_ HSP.out (by simpa using hJc) (by simp [Value.oneCell']), Lib.hid ⟨?_, ?_⟩⟩
                  · show 2 = min 2 (N - J); omega
                  · have := setRow_heap wr.drew Bf _ (splice cur J [.int .u8 92, .int .u8 q.toNat]).toArray _ _ HR.out.2.1
                    unfold splice at this ⊢
                    rw [← List.append_assoc] at this ⊢
                    exact this
                  · exact below_setRow HR.out.1.drew hWB _
                have hNJ : ¬ N = J := by omega
                have HJn := Lib.hid hJ2
                clear hJ2
                go_region
                all_goals (go_wp2_with fail)
                all_goals go_round
                case rel =>
                  refine ⟨k + 1, splice cur J [.int .u8 92, .int .u8 q.toNat], by omega, by go_num, ?_, Lib.hid ⟨HW4.out.2, HW4.out.1, by rw [length_splice _ _ _ hJc]; exact HR.out.2.2.1, ?_⟩⟩
                  · rw [HS.out, List.length_append, ← HJ.out]; have := HJn.out; go_num
                  · rw [HS.out, List.length_append, ← HJ.out]
                    have h1 := take_splice cur J [Value.int .u8 92, Value.int .u8 q.toNat] (by omega)
                    show (splice cur J _).take (J + 2) = _
                    refine h1.trans ?_
                    rw [HR.out.2.2.2, byteCells_app]; rfl
                case measure => simp [intOf]; omega
            · have hkk : k = S.size := by omega
              have hd : decide ((k : Int) < (S.size : Int)) = false := decide_eq_false (by omega)
              have e0 : S.data.toList.take k = S.data.toList := List.take_of_length_le (by omega)
              rw [e0, ← HN.out] at HR
              have hcv : (convert 86 9 (.slice (some ⟨Bf, 0, none⟩) N N)).run Try.prog wr = .ok (.string ⟨(Lex.enc S.data.toList).toArray⟩) wr := by
                conv => lhs; rw [HN.out]
                refine run_convert_bytes_back wr 86 9 5 ⟨Bf, 0, none⟩ _ _ Try.underlying86 Try.underlying5 Try.underlying9 fun j hj => ?_
                have hjN : j < N := by rw [HN.out]; exact hj
                have h1 : cur[j]? = some (.int .u8 ((Lex.enc S.data.toList)[j].toNat : Int)) := by
                  have h2 : (cur.take N)[j]? = (Lib.byteCells (Lex.enc S.data.toList))[j]? := by rw [HR.out.2.2.2]
                  rw [List.getElem?_take_of_lt hjN] at h2
                  rw [h2]; unfold Lib.byteCells; rw [List.getElem?_map, List.getElem?_eq_getElem hj]; rfl
                have h3 := HR.out.2.1.cell j
                rw [List.getElem?_toArray, h1] at h3
                have e : Addr.add ⟨Bf, 0, none⟩ j = ⟨Bf, j, none⟩ := by cases j <;> simp [Addr.add]
                rw [e]; exact h3
              go_wp2_with fail
              go_ret
              exact ⟨rfl, HR.out.1⟩

end Go.Proofs.Ytocbebkcpmodnaa
