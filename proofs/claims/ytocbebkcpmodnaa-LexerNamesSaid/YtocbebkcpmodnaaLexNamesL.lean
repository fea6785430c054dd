/- LexerNames: the walk. -/
import Derived.Test.YtocbebkcpmodnaaLexNames
import Derived.Test.YtocbebkcpmodnaaLexBegin
namespace Go.Proofs.Ytocbebkcpmodnaa
open Go.RowKit

theorem name_iff (s : List UInt8) : Lex.nameB s = true ↔ Lex.lex s = .ok [(1, s, 0)] := ⟨Lex.lex_name s, Lex.name_lex⟩

theorem bounds_u64 {n : Int} (h : (Lit.int .u64 n).wf = true) : 0 ≤ n ∧ n ≤ 18446744073709551615 := by
  simp [Lit.wf, IntKind.min, IntKind.max, IntKind.signed, IntKind.bits] at h
  omega
theorem digs_fit {d T : ByteArray} (h : Digs 7 d) (h3 : ¬ 3000 < T.size) : ¬ (9223372036854775807 < T.size + 1 + d.size) := by
  have h1 := h.2.2
  have h2 : d.data.toList.length = d.size := rfl
  omega

set_option maxRecDepth 100000 in
set_option maxHeartbeats 4000000 in
theorem names_any (T : ByteArray) (z : Int) (hz0 : 0 ≤ z) (hz1 : z ≤ 18446744073709551615) (y : Int) (hy0 : 0 ≤ y) (hy1 : y ≤ 255) (W : World) :
    Calls Try.prog 10 #[.string T, .int .u64 z, .int .u8 y] W fun e w' => e = .returned (.bool true) ∧ Below W.heap.size W w' := by
  obtain ⟨Z, rfl⟩ : ∃ n : Nat, z = n := ⟨z.toNat, by omega⟩
  obtain ⟨Y, rfl⟩ : ∃ n : Nat, y = n := ⟨y.toNat, by omega⟩
  have HH := Lib.hid (head_any W)
  go_enter Try.func10, Try.ntmps10
  go_wp2_with fail
  refine HH.out.mono ?_
  rintro e w1 ⟨rfl, hb⟩
  have HB1 := Lib.hid hb
  clear hb HH
  by_cases h3 : 3000 < T.size
  · have hd : decide ((3000 : Int) < T.size) = true := decide_eq_true (by omega)
    go_wp2_with fail
    go_ret
    exact ⟨rfl, HB1.out⟩
  · have hd : decide ((3000 : Int) < T.size) = false := decide_eq_false (by omega)
    have HN := Lib.hid (fun w => name_any T (by omega) w)
    cases hnm : Lex.nameB T.data.toList with
    | true =>
      rw [hnm] at HN
      have hx := (name_iff _).1 hnm
      obtain ⟨D, HD⟩ : ∃ D, Hid (D = Z % 10000000) := ⟨_, Lib.hid rfl⟩
      obtain ⟨M, HM⟩ : ∃ D, Hid (D = Y % 17) := ⟨_, Lib.hid rfl⟩
      have hD1 : (Z : Int) % 10000000 = D := by have := HD.out; omega
      have hM1 : (Y : Int) % 17 = M := by have := HM.out; omega
      have hDb : (D : Int) < 10000000 := by have := HD.out; omega
      have hMb : (M : Int) < 17 := by have := HM.out; omega
      obtain ⟨c, hcs, hce⟩ := sym_at (m := M) (by omega)
      have HDec := Lib.hid (fun w => decimal_any 7 (by omega) (by omega) D (by omega) w)
      obtain ⟨S1, HS1⟩ : ∃ S : ByteArray, Hid (S = ⟨#[c]⟩) := ⟨_, Lib.hid rfl⟩
      have hS1 : (⟨#[61, 59, 60, 62, 40, 41, 123, 125, 91, 93, 44, 46, 58, 47, 45, 43, 42]⟩ : ByteArray).extract M (M + 1) = S1 := by rw [HS1.out]; exact hce
      have HC := Lib.hid hcs
      have HNm := Lib.hid hnm
      have hS1s : S1.size = 1 := by rw [HS1.out]; rfl
      have hL := Lib.hid (fun w => lex_ok T (by omega) _ hx w)
      have hq1 : ¬ (9223372036854775807 < T.size + 1) := by omega
      clear hnm hx hcs hce
      go_wp2_with fail
      refine (hL.out _).mono ?_
      rintro e w2 ⟨ao, cap, rfl, ht, hb⟩
      have HB2 := Lib.hid (HB1.out.trans (hb.mono HB1.out.size))
      obtain ⟨g, rfl, hg, hlt, k0, k1, k2⟩ := toks_at ht (j := 0) rfl
      rw [bytes_back] at k1
      have k0' : w2.cell? ⟨g, 0, none⟩ = some (.int .i64 1) := k0
      have k1' : w2.cell? ⟨g, 1, none⟩ = some (.string T) := k1
      have k2' : w2.cell? ⟨g, 2, none⟩ = some (.int .i64 0) := k2
      clear hb HB1 ht k0 k1 k2
      go_wp2_with fail
      refine (HN.out _).mono ?_
      rintro e w3 ⟨rfl, rfl⟩
      go_wp2_with (go_at_call 23; with_reducible refine (HDec.out _).mono ?_; rintro e w3 ⟨d, rfl, hd7, rfl⟩; have HDg := Lib.hid hd7; have hq2 := digs_fit hd7 h3; clear hd7 hD1 hDb)
      obtain ⟨V, HV⟩ : ∃ V : ByteArray, Hid (V = T ++ S1 ++ d) := ⟨_, Lib.hid rfl⟩
      have hV1 : V.data.toList = T.data.toList ++ c :: d.data.toList := by
        rw [HV.out, HS1.out, ByteArray.data_append, ByteArray.data_append]
        simp
      have hV2 : V.size ≤ 20000 := by
        have h5 := HDg.out.2.2
        have h1 : V.data.toList.length = V.size := rfl
        have h2 : T.data.toList.length = T.size := rfl
        have h4 : d.data.toList.length = d.size := rfl
        rw [← h1, hV1, List.length_append, List.length_cons]
        omega
      have hV3 : Lex.lex V.data.toList = .ok [(1, T.data.toList, 0), (4, [c], T.size), (2, d.data.toList, T.size + 1)] := by
        rw [hV1]
        exact Lex.lex_three HNm.out HC.out HDg.out.2.1 HDg.out.1 HDg.out.2.2
      rw [← HV.out]
      refine (lex_ok V hV2 _ hV3 w2).mono ?_
      rintro e w4 ⟨ao, cap', rfl, ht, hb⟩
      have HB4 := Lib.hid (HB2.out.trans (hb.mono HB2.out.size))
      obtain ⟨g', rfl, hg', hlt', k0, k1, k2⟩ := toks_at ht (j := 0) rfl
      obtain ⟨g2, e2, -, -, k3, k4, k5⟩ := toks_at ht (j := 1) rfl
      injection e2 with e2
      injection e2 with e2
      subst e2
      obtain ⟨g3, e3, -, -, k6, k7, k8⟩ := toks_at ht (j := 2) rfl
      injection e3 with e3
      injection e3 with e3
      subst e3
      rw [bytes_back] at k1 k7
      have hSc : (⟨[c].toArray⟩ : ByteArray) = S1 := by rw [HS1.out]
      rw [hSc] at k4
      have m0 : w4.cell? ⟨g', 0, none⟩ = some (.int .i64 1) := k0
      have m1 : w4.cell? ⟨g', 1, none⟩ = some (.string T) := k1
      have m2 : w4.cell? ⟨g', 2, none⟩ = some (.int .i64 0) := k2
      have m3 : w4.cell? ⟨g', 3, none⟩ = some (.int .i64 4) := k3
      have m4 : w4.cell? ⟨g', 4, none⟩ = some (.string S1) := k4
      have m5 : w4.cell? ⟨g', 5, none⟩ = some (.int .i64 T.size) := k5
      have m6 : w4.cell? ⟨g', 6, none⟩ = some (.int .i64 2) := k6
      have m7 : w4.cell? ⟨g', 7, none⟩ = some (.string d) := k7
      have m8 : w4.cell? ⟨g', 8, none⟩ = some (.int .i64 ((T.size : Int) + 1)) := k8
      have hTb : (T.size : Int) ≤ 3000 := by omega
      clear hb HB2 ht k0 k1 k2 k3 k4 k5 k6 k7 k8 k0' k1' k2' hV1 hV2 hV3 hSc hq1 hq2 hS1s hM1 hMb hS1
      go_wp2_with fail
      go_ret
      exact ⟨rfl, HB4.out⟩
    | false =>
      rw [hnm] at HN
      have hno : ¬ Lex.lex T.data.toList = .ok [(1, T.data.toList, 0)] := fun h => by
        have := (name_iff _).2 h
        rw [hnm] at this; cases this
      cases hx : Lex.lex T.data.toList with
      | error q =>
        obtain ⟨x, q⟩ := q
        have hL := Lib.hid (fun w => lex_bad T (by omega) x q hx w)
        clear hnm hx hno
        go_wp2_with fail
        refine (hL.out _).mono ?_
        rintro e w2 ⟨rfl, hx0, hb⟩
        have HB2 := Lib.hid (HB1.out.trans (hb.mono HB1.out.size))
        have hxe : ((x : Int) == 0) = false := by
          have : ((x : Int) == 0) = decide ((x : Int) = 0) := rfl
          rw [this, decide_eq_false]; omega
        clear hb HB1 hx0
        go_wp2_with fail
        refine (HN.out _).mono ?_
        rintro e w3 ⟨rfl, rfl⟩
        go_wp2_with fail
        go_ret
        exact ⟨rfl, HB2.out⟩
      | ok l =>
        have hL := Lib.hid (fun w => lex_ok T (by omega) l hx w)
        by_cases hl : l.length = 1
        · obtain ⟨⟨k, t, a⟩, rfl⟩ := List.length_eq_one_iff.1 hl
          obtain ⟨X, HX⟩ : ∃ X : ByteArray, Hid (X = ⟨t.toArray⟩) := ⟨_, Lib.hid rfl⟩
          have hne : ¬ (k = 1 ∧ X = T ∧ a = 0) := fun ⟨h1, h2, h3⟩ => hno (by
            rw [hx, h1, h3]
            have : t = T.data.toList := by rw [← h2, HX.out]
            rw [this])
          have HNE := Lib.hid hne
          clear hnm hx hno hl hne
          go_wp2_with fail
          refine (hL.out _).mono ?_
          rintro e w2 ⟨ao, cap, rfl, ht, hb⟩
          have HB2 := Lib.hid (HB1.out.trans (hb.mono HB1.out.size))
          obtain ⟨g, rfl, hg, hlt, k0, k1, k2⟩ := toks_at ht (j := 0) rfl
          rw [← HX.out] at k1
          have k0' : w2.cell? ⟨g, 0, none⟩ = some (.int .i64 k) := k0
          have k1' : w2.cell? ⟨g, 1, none⟩ = some (.string X) := k1
          have k2' : w2.cell? ⟨g, 2, none⟩ = some (.int .i64 a) := k2
          clear hb HB1 ht k0 k1 k2
          by_cases hk : k = 1
          · have b1 : ((k : Int) == 1) = true := by rw [hk]; rfl
            by_cases hX : X = T
            · have b2 : (X.toList == T.toList) = true := by rw [hX]; exact beq_self_eq_true _
              have b3 : ((a : Int) == 0) = false := by
                have h : ¬ a = 0 := fun h => HNE.out ⟨hk, hX, h⟩
                have : ((a : Int) == 0) = decide ((a : Int) = 0) := rfl
                rw [this, decide_eq_false]; omega
              clear hk hX
              go_wp2_with fail
              refine (HN.out _).mono ?_
              rintro e w3 ⟨rfl, rfl⟩
              go_wp2_with fail
              go_ret
              exact ⟨rfl, HB2.out⟩
            · have b2 : (X.toList == T.toList) = false := (Lib.bytes_beq_false_iff _ _).2 hX
              clear hk hX
              go_wp2_with fail
              refine (HN.out _).mono ?_
              rintro e w3 ⟨rfl, rfl⟩
              go_wp2_with fail
              go_ret
              exact ⟨rfl, HB2.out⟩
          · have b1 : ((k : Int) == 1) = false := by
              have : ((k : Int) == 1) = decide ((k : Int) = 1) := rfl
              rw [this, decide_eq_false]; omega
            clear hk
            go_wp2_with fail
            refine (HN.out _).mono ?_
            rintro e w3 ⟨rfl, rfl⟩
            go_wp2_with fail
            go_ret
            exact ⟨rfl, HB2.out⟩
        · have hle : ((l.length : Int) == 1) = false := by
            have : ((l.length : Int) == 1) = decide ((l.length : Int) = 1) := rfl
            rw [this, decide_eq_false]; omega
          clear hnm hx hno hl
          go_wp2_with fail
          refine (hL.out _).mono ?_
          rintro e w2 ⟨ao, cap, rfl, -, hb⟩
          have HB2 := Lib.hid (HB1.out.trans (hb.mono HB1.out.size))
          clear hb HB1
          go_wp2_with fail
          refine (HN.out _).mono ?_
          rintro e w3 ⟨rfl, rfl⟩
          go_wp2_with fail
          go_ret
          exact ⟨rfl, HB2.out⟩

end Go.Proofs.Ytocbebkcpmodnaa
