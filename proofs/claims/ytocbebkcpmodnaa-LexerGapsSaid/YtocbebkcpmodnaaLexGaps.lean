/- LexerGaps. -/
import Derived.Test.YtocbebkcpmodnaaLexAgain
import Derived.Test.YtocbebkcpmodnaaLexPlaces
import Derived.Deep.RegionLaw
namespace Go.Proofs.Ytocbebkcpmodnaa
open Go.RowKit

namespace Lex
theorem lex_at {f p n : Nat} {s : List UInt8} {l : List Tk} (hf : s.length < f) (hn : n + s.length ≤ 5000) (h : lexF f p n s = .ok l) : ∃ l', lex s = .ok l' ∧ l = shift p l' := by
  have h1 := lexF_shift f 0 p n s
  rw [Nat.zero_add, h] at h1
  rw [lexF_count f 0 n 0 s hn (by omega), lexF_fuel f (s.length + 1) 0 0 s hf (Nat.lt_succ_self _)] at h1
  cases hx : lexF (s.length + 1) 0 0 s with
  | error x => rw [hx] at h1; cases h1
  | ok l' =>
    rw [hx] at h1
    injection h1 with h1
    exact ⟨l', hx, h1⟩
theorem alike_shift (d : Nat) (l : List Tk) : (shift d l).map (fun x => (x.1, x.2.1)) = l.map (fun x => (x.1, x.2.1)) := by
  unfold shift; rw [List.map_map]; rfl
theorem lex_some_gaps {G : List UInt8} (hG : skip false G = []) : lex G = .ok [] := by
  have : lexF (G.length + 1) 0 0 G = .ok [] := by unfold lexF; rw [hG]
  exact this
theorem lex_cut {s : List UInt8} {l : List Tk} (h : lex s = .ok l) (hs : s.length ≤ 1500) {m : Nat} (hm : (l = [] ∧ m = 0) ∨ ∃ (j k : Nat) (t : List UInt8) (a : Nat), l[j]? = some (k, t, a) ∧ m = a + (written k t).length) :
    m ≤ s.length ∧ ∃ u v, lex (s.take m) = .ok u ∧ lex (s.drop m) = .ok v ∧ u.map (fun x => (x.1, x.2.1)) ++ v.map (fun x => (x.1, x.2.1)) = l.map (fun x => (x.1, x.2.1)) := by
  rcases hm with ⟨rfl, rfl⟩ | ⟨j, k, t, a, hj, rfl⟩
  · exact ⟨Nat.zero_le _, [], [], rfl, h, rfl⟩
  · obtain ⟨-, h2, h3, h4⟩ := lexF_cut (s.length + 1) 0 0 s l (Nat.lt_succ_self _) (by omega) h j k t a hj
    rw [Nat.sub_zero] at h2 h3 h4
    obtain ⟨u, h5, h6⟩ := lex_at (by rw [List.length_take]; omega) (by rw [List.length_take]; omega) h3
    obtain ⟨v, h7, h8⟩ := lex_at (by rw [List.length_drop]; omega) (by rw [List.length_drop]; omega) h4
    refine ⟨h2, u, v, h5, h7, ?_⟩
    rw [← alike_shift 0 u, ← h6, ← alike_shift (a + (written k t).length) v, ← h8, ← List.map_append, List.take_append_drop]
theorem lex_gaps {s G : List UInt8} {l : List Tk} (h : lex s = .ok l) (hs : s.length ≤ 1500) (hG : skip false G = []) (hGl : G.length ≤ 300) {m : Nat} (hm : (l = [] ∧ m = 0) ∨ ∃ (j k : Nat) (t : List UInt8) (a : Nat), l[j]? = some (k, t, a) ∧ m = a + (written k t).length) :
    m ≤ s.length ∧ ∃ l', lex (G ++ 10 :: ((s.take m ++ G) ++ 10 :: (s.drop m ++ 10 :: G))) = .ok l' ∧ alike l l' := by
  obtain ⟨h1, u, v, h2, h3, h4⟩ := lex_cut h hs hm
  refine ⟨h1, ?_⟩
  have hg := lex_some_gaps hG
  have l1 : (s.take m).length ≤ 1500 := by rw [List.length_take]; omega
  have l2 : (s.drop m).length ≤ 1500 := by rw [List.length_drop]; omega
  have l3 : (s.take m ++ G).length ≤ 1800 := by rw [List.length_append]; omega
  have l4 : (s.drop m ++ 10 :: G).length ≤ 1801 := by rw [List.length_append, List.length_cons]; omega
  have e1 := lex_nl (s.drop m) G (by omega)
  rw [h3, hg] at e1
  dsimp only at e1
  have hu : lex (s.take m ++ G) = .ok u := by
    have := lexF_gap hG ((s.take m ++ G).length + 1) 0 0 (s.take m) u (by rw [List.length_append]; omega) (by rw [← h2]; exact lexF_fuel _ _ _ _ _ (by rw [List.length_append]; omega) (by omega))
    exact this
  have e2 := lex_nl (s.take m ++ G) (s.drop m ++ 10 :: G) (by omega)
  rw [hu, e1] at e2
  dsimp only at e2
  have e3 := lex_nl G ((s.take m ++ G) ++ 10 :: (s.drop m ++ 10 :: G)) (by rw [List.length_append, List.length_cons]; omega)
  rw [hg, e2] at e3
  dsimp only at e3
  refine ⟨_, e3, ?_⟩
  unfold alike
  rw [List.nil_append, alike_shift, List.map_append, alike_shift, List.map_append]
  rw [show shift ((s.drop m).length + 1) [] = [] from rfl, List.map_nil, List.append_nil, h4]
end Lex

theorem bounds_u16 {n : Int} (h : (Lit.int .u16 n).wf = true) : 0 ≤ n ∧ n ≤ 65535 := by
  simp [Lit.wf, IntKind.min, IntKind.max, IntKind.signed, IntKind.bits] at h
  omega

set_option maxRecDepth 100000 in
set_option maxHeartbeats 4000000 in
theorem gapsLaw_any (T G : ByteArray) (z : Int) (hz0 : 0 ≤ z) (hz1 : z ≤ 65535) (W : World) : Calls Try.prog 8 #[.string T, .string G, .int .u16 z] W fun e w' => e = .returned (.bool true) ∧ Below W.heap.size W w' := by
  obtain ⟨Z, rfl⟩ : ∃ n : Nat, z = n := ⟨z.toNat, by omega⟩
  have HH := Lib.hid (head_any W)
  go_enter Try.func8, Try.ntmps8
  go_wp2_with fail
  refine HH.out.mono ?_
  rintro e w1 ⟨rfl, hb⟩
  have HB1 := Lib.hid hb
  clear hb HH
  by_cases h3 : 1500 < T.size
  · have hd : decide ((1500 : Int) < T.size) = true := decide_eq_true (by omega)
    go_wp2_with fail
    go_ret
    exact ⟨rfl, HB1.out⟩
  have hd : decide ((1500 : Int) < T.size) = false := decide_eq_false (by omega)
  by_cases h4 : 300 < G.size
  · have hd4 : decide ((300 : Int) < G.size) = true := decide_eq_true (by omega)
    go_wp2_with fail
    go_ret
    exact ⟨rfl, HB1.out⟩
  have hd4 : decide ((300 : Int) < G.size) = false := decide_eq_false (by omega)
  have HGp := Lib.hid (fun w => gaps_any G (by omega) w)
  go_wp2_with fail
  refine (HGp.out _).mono ?_
  rintro e w2 ⟨rfl, hw⟩
  subst hw
  by_cases hG : Lex.skip false G.data.toList = []
  case neg =>
    have hdG : decide (Lex.skip false G.data.toList = []) = false := decide_eq_false hG
    rw [hdG]
    clear hdG hG HGp
    go_wp2_with fail
    go_ret
    exact ⟨rfl, HB1.out⟩
  have hdG : decide (Lex.skip false G.data.toList = []) = true := decide_eq_true hG
  rw [hdG]
  clear hdG HGp
  cases hx : Lex.lex T.data.toList with
  | error y =>
    obtain ⟨x, q⟩ := y
    have HL := Lib.hid (fun w => lex_bad T (by omega) x q hx w)
    clear hx hG
    go_wp2_with fail
    refine (HL.out _).mono ?_
    rintro e w2 ⟨rfl, hx0, hb⟩
    have HB2 := Lib.hid (HB1.out.trans (hb.mono HB1.out.size))
    have hxe : ((x : Int) == 0) = false := by
      have : ((x : Int) == 0) = decide ((x : Int) = 0) := rfl
      rw [this, decide_eq_false]; omega
    clear hb HB1 hx0
    go_wp2_with fail
    go_ret
    exact ⟨rfl, HB2.out⟩
  | ok l =>
    have HL := Lib.hid (fun w => lex_ok T (by omega) l hx w)
    have HX := Lib.hid (fun m hm => Lex.lex_gaps (m := m) hx (show T.size ≤ 1500 by omega) hG (show G.size ≤ 300 by omega) hm)
    have HF := Lib.hid (Lex.lex_few hx)
    have hTs : T.size ≤ 1500 := by omega
    have hGs : G.size ≤ 300 := by omega
    clear hx hG
    have key : ∀ (m : Nat), ((l = [] ∧ m = 0) ∨ ∃ (j k : Nat) (t : List UInt8) (a : Nat), l[j]? = some (k, t, a) ∧ m = a + (Lex.written k t).length) → m ≤ T.size ∧ ∃ U R V : ByteArray, T.extract 0 m = U ∧ T.extract m T.size = R ∧ U.size ≤ 1500 ∧ R.size ≤ 1500 ∧ G ++ ⟨#[10]⟩ ++ U ++ (G ++ ⟨#[10]⟩) ++ R ++ ⟨#[10]⟩ ++ G = V ∧ V.size ≤ 20000 ∧ ∃ l', Lex.lex V.data.toList = .ok l' ∧ Lex.alike l l' := fun m hm => by
      obtain ⟨h1, l', h2, h5⟩ := HX.out m hm
      have ed : (T.extract m T.size).data.toList = T.data.toList.drop m := by
        rw [Lex.extract_list]
        exact List.take_of_length_le (by rw [List.length_drop]; exact Nat.le_refl _)
      have et : (T.extract 0 m).data.toList = T.data.toList.take m := by
        rw [Lex.extract_list, List.drop_zero, Nat.sub_zero]
      have e0 : (G ++ ⟨#[10]⟩ ++ T.extract 0 m ++ (G ++ ⟨#[10]⟩) ++ T.extract m T.size ++ ⟨#[10]⟩ ++ G).data.toList = G.data.toList ++ 10 :: ((T.data.toList.take m ++ G.data.toList) ++ 10 :: (T.data.toList.drop m ++ 10 :: G.data.toList)) := by
        have en : (⟨#[10]⟩ : ByteArray).data.toList = [10] := rfl
        simp only [Lex.app_list, ed, et, en]
        simp only [List.append_assoc, List.cons_append, List.nil_append]
      have el : ∀ X : ByteArray, X.data.toList.length = X.size := fun _ => rfl
      refine ⟨h1, _, _, _, rfl, rfl, ?_, ?_, rfl, ?_, l', by rw [e0]; exact h2, h5⟩
      · rw [← el, et, List.length_take, el]; omega
      · rw [← el, ed, List.length_drop, el]; omega
      · have e1 := congrArg List.length e0
        rw [el] at e1
        rw [e1]
        simp only [List.length_append, List.length_cons, List.length_take, List.length_drop, el]
        omega
    have HK := Lib.hid key
    clear key HX
    obtain ⟨n, Hn⟩ : ∃ n, Hid (n = l.length) := ⟨_, Lib.hid rfl⟩
    have hn1 : n ≤ 1500 := by have := HF.out.1; rw [show T.data.toList.length = T.size from rfl] at this; rw [Hn.out]; omega
    have HAl := Lib.hid (fun (l' : List Lex.Tk) (h : Lex.alike l l') w pa pb ca cb h1 h2 => alike_true pa pb ca cb l l' h (by rw [← Hn.out]; omega) w h1 h2)
    rw [← Hn.out] at HL HAl
    go_wp2_with fail
    refine (HL.out _).mono ?_
    rintro e w2 ⟨ao, cap, rfl, ht, hb⟩
    have HB2 := Lib.hid (HB1.out.trans (hb.mono HB1.out.size))
    have HR := Lib.hid (toks_row ht)
    clear hb HB1 ht HL
    have hG1 : ¬ (9223372036854775807 < G.size + 1) := by omega
    by_cases hn0 : n = 0
    · subst hn0
      have hl0 : l = [] := List.eq_nil_of_length_eq_zero Hn.out.symm
      obtain ⟨-, U, R, V, hU, hR, hU1, hR1, hV1, hV2, l', hV3, hV4⟩ := HK.out 0 (Or.inl ⟨hl0, rfl⟩)
      have HLV := Lib.hid (fun w => lex_ok V hV2 l' hV3 w)
      have HAl' := Lib.hid (HAl.out l' hV4)
      have hU0 : U = ⟨#[]⟩ := by
        rw [← hU, Lex.extract_list]; rfl
      have hR0 : R = T := by
        rw [← hR, Lex.extract_list, List.drop_zero, List.take_of_length_le (by show T.size ≤ T.size - 0; omega), bytes_back]
      rw [hU0, hR0, show G ++ ⟨#[10]⟩ ++ (⟨#[]⟩ : ByteArray) = G ++ ⟨#[10]⟩ by rw [← bytes_back (G ++ ⟨#[10]⟩ ++ (⟨#[]⟩ : ByteArray)), Lex.app_list, show (⟨#[]⟩ : ByteArray).data.toList = [] from rfl, List.append_nil, bytes_back]] at hV1
      have hq1 : ¬ (9223372036854775807 < G.size + 1 + (G.size + 1)) := by omega
      have hq2 : ¬ (9223372036854775807 < G.size + 1 + (G.size + 1) + T.size) := by omega
      have hq4 : ¬ (9223372036854775807 < G.size + 1 + (G.size + 1) + T.size + 1) := by omega
      have hq5 : ¬ (9223372036854775807 < G.size + 1 + (G.size + 1) + T.size + 1 + G.size) := by omega
      have HV1 := Lib.hid hV1
      clear hl0 hV1 hV2 hV3 hV4 HK HAl hU hR hU0 hR0 hU1 hR1
      go_wp2_with fail
      go_region_law (go_simp; go_at_call 12; rw [HV1.out]; refine (HLV.out _).mono ?_; rintro e w3 ⟨ao', cap', rfl, ht, hb⟩; have HB3 := Lib.hid (HB2.out.drew.trans (hb.mono (HB2.out.drew).size)); have HR3 := Lib.hid ((HR.out.below (Below.refl _ _).drew).below hb); have HT3 := Lib.hid (toks_row ht); clear hb ht HB2 HLV)
      go_wp2_with fail
      refine (HAl'.out _ _ _ _ _ HR3.out HT3.out).mono ?_
      rintro e w4 ⟨rfl, hb⟩
      have HB4 := Lib.hid (HB3.out.trans (hb.mono HB3.out.size))
      clear hb HB3
      go_wp2_with fail
      go_ret
      exact ⟨rfl, HB4.out⟩
    · have hn0' : decide (0 < n) = true := decide_eq_true (by omega)
      obtain ⟨j, hj⟩ : ∃ j : Nat, (Z : Int) % (n : Int) = (j : Int) := ⟨Z % n, by omega⟩
      have hjn : j < n := by
        have := Int.emod_lt_of_pos (Z : Int) (show (0 : Int) < n by omega)
        omega
      have hj0 : (0 : Int) ≤ (j : Int) := by omega
      have hj1 : (j : Int) < (n : Int) := by omega
      obtain ⟨⟨kk, t, a⟩, hx⟩ : ∃ x, l[j]? = some x := ⟨_, List.getElem?_eq_getElem (by rw [← Hn.out]; exact hjn)⟩
      obtain ⟨g, off, rfl, hg, a0, a1, a2⟩ := HR.out j kk t a hx
      obtain ⟨hm, U, R, V, hU, hR, hU1, hR1, hV1, hV2, l', hV3, hV4⟩ := HK.out (a + (Lex.written kk t).length) (Or.inr ⟨j, kk, t, a, hx, rfl⟩)
      obtain ⟨X, HX⟩ : ∃ X : ByteArray, Hid (X = ⟨t.toArray⟩) := ⟨_, Lib.hid rfl⟩
      rw [← HX.out] at a1
      have hXl : X.data.toList = t := by rw [HX.out]
      have hXs : X.size ≤ 100000000 := by
        have h1 : t.length ≤ (Lex.written kk t).length := by
          unfold Lex.written
          split
          · unfold Lex.quote
            rw [List.length_cons, List.length_append]
            have := (Lex.enc_len t).1
            omega
          · exact Nat.le_refl _
        have h2 : X.size = t.length := by rw [HX.out, Lex.size_list]
        omega
      have HW := Lib.hid (fun w => refWritten_any kk a X hXs w)
      obtain ⟨Y, HY⟩ : ∃ Y : ByteArray, Hid (Y = ⟨(Lex.written kk X.data.toList).toArray⟩) := ⟨_, Lib.hid rfl⟩
      have hYs : (Lex.written kk t).length = Y.size := by rw [HY.out, Lex.size_list, hXl]
      rw [← HY.out] at HW
      rw [hYs] at hU hR hm
      have HLV := Lib.hid (fun w => lex_ok V hV2 l' hV3 w)
      have HAl' := Lib.hid (HAl.out l' hV4)
      have hq1 : ¬ (9223372036854775807 < G.size + 1 + U.size) := by omega
      have hq2 : ¬ (9223372036854775807 < G.size + 1 + U.size + (G.size + 1)) := by omega
      have hq3 : ¬ (9223372036854775807 < G.size + 1 + U.size + (G.size + 1) + R.size) := by omega
      have hq4 : ¬ (9223372036854775807 < G.size + 1 + U.size + (G.size + 1) + R.size + 1) := by omega
      have hq5 : ¬ (9223372036854775807 < G.size + 1 + U.size + (G.size + 1) + R.size + 1 + G.size) := by omega
      obtain ⟨M, hM⟩ : ∃ M : Nat, (a : Int) + (Y.size : Int) = (M : Int) := ⟨a + Y.size, by omega⟩
      have hM' : a + Y.size = M := by omega
      rw [hM'] at hU hR hm
      have hm0 : decide ((T.size : Int) < (M : Int)) = false := decide_eq_false (by omega)
      have hm1 : decide ((M : Int) < 0) = false := decide_eq_false (by omega)
      have hm2 : (0 : Int) ≤ (M : Int) := by omega
      have hm3 : (M : Int) ≤ T.size := by omega
      have hp1 : ¬ (9223372036854775807 < G.size + 1 + M) := by omega
      have HV1 := Lib.hid hV1
      have HR0 := Lib.hid HR.out
      clear hV1 hV2 hV3 hV4 HK HAl hx hYs hXl hXs hm hM'
      go_wp2_with fail
      obtain ⟨v, Hv⟩ : ∃ v, Hid (v = w2.alloc (.cells #[.int .i64 kk, .string X, .int .i64 (a : Int)] 31)) := ⟨_, Lib.hid rfl⟩
      have hwv : Whole v w2.heap.size 31 #[.int .i64 kk, .string X, .int .i64 (a : Int)] := by rw [Hv.out]; exact Whole.new _ _ _
      have HBv : Hid (Below W.heap.size W v ∧ Below w2.heap.size w2 v) := Lib.hid (by rw [Hv.out]; exact ⟨HB2.out.alloc HB2.out.size _, (Below.refl _ _).alloc (Nat.le_refl _) _⟩)
      have g0 : ∀ x : Grown v, x.w.cell? ⟨w2.heap.size, 0, none⟩ = some (.int .i64 kk) := fun x => by rw [x.cell hwv.lt]; exact hwv.cell 0
      have g1 : ∀ x : Grown v, x.w.cell? ⟨w2.heap.size, 1, none⟩ = some (.string X) := fun x => by rw [x.cell hwv.lt]; exact hwv.cell 1
      have g2 : ∀ x : Grown v, x.w.cell? ⟨w2.heap.size, 2, none⟩ = some (.int .i64 (a : Int)) := fun x => by rw [x.cell hwv.lt]; exact hwv.cell 2
      rw [← Hv.out]
      clear hwv
      refine wp_region_grown (by kernel_rfl) (by kernel_rfl) ?_
      repeat (go_big_quiet_step (exact grown_of (HW.out _)))
      refine wpQuiet_nil ?_
      rintro _ ⟨x, rfl⟩
      obtain ⟨w3, Hw3⟩ : ∃ y, Hid (y = x.w) := ⟨_, Lib.hid rfl⟩
      have HB3 : Hid (Below W.heap.size W w3 ∧ Below w2.heap.size w2 w3) := Lib.hid (by rw [Hw3.out]; exact ⟨HBv.out.1.trans (x.below.mono HBv.out.1.size), HBv.out.2.trans (x.below.mono HBv.out.2.size)⟩)
      rw [← Hw3.out]
      clear g0 g1 g2 a0 a1 a2 HBv
      go_wp2_with fail
      go_region_law (go_simp; go_at_call 12; rw [HV1.out]; refine (HLV.out _).mono ?_; rintro e w4 ⟨ao', cap', rfl, ht, hb⟩; have HB4 := Lib.hid (HB3.out.1.drew.trans (hb.mono (HB3.out.1.drew).size)); have HR4 := Lib.hid (((HR0.out.below HB3.out.2).below (Below.refl _ _).drew).below hb); have HT4 := Lib.hid (toks_row ht); clear hb ht HB3 HLV)
      go_wp2_with fail
      refine (HAl'.out _ _ _ _ _ HR4.out HT4.out).mono ?_
      rintro e w5 ⟨rfl, hb⟩
      have HB5 := Lib.hid (HB4.out.trans (hb.mono HB4.out.size))
      clear hb HB4
      go_wp2_with fail
      go_ret
      exact ⟨rfl, HB5.out⟩

end Go.Proofs.Ytocbebkcpmodnaa
