/- The walk of SignSecrets. -/
import Derived.Test.YtfnbdjjobndgfaaDoorSgnShown
import Derived.Test.YtfnbdjjobndgfaaDoorSgnMatches
import Derived.Test.YtfnbdjjobndgfaaDoorGuardApp
import Derived.Deep.RegionLaw
import Derived.Deep.AppendLies
namespace Go.Proofs.YtfnbdjjobndgfaaDoor
open Go.RowKit

/-- A list of texts of the call's own. -/
def RowPost (n : Nat) (l : List ByteArray) (w : World) (e : Ending) (w' : World) : Prop :=
  ∃ g c, e = .returned (.slice (some ⟨g, 0, none⟩) n c) ∧ w'.ownsRow w.heap.size 9 1 (.slice (some ⟨g, 0, none⟩) n c) n (strC l) ∧ Below w.heap.size w w'
theorem owns_pos {w : World} {base n c : Nat} {uo : Option Addr} {xs : List Value} (h : w.ownsRow base 9 1 (.slice uo n c) n xs) (hn : 0 < n) : ∃ g, uo = some ⟨g, 0, none⟩ := by
  rcases h.2 with ⟨_, h0⟩ | ⟨g, cap, cur, hv, _⟩
  · omega
  · simp only [Value.slice.injEq] at hv
    exact ⟨g, hv.1⟩
theorem made_pos (sec : ByteArray) (h n : Nat) : 0 < (madeV sec h n).length := List.length_pos_of_mem (made_key (Nat.pow_pos (by decide) : 0 < 2 ^ h))
theorem made_row (sec : ByteArray) (hs : sec.size ≤ 300) (h n : Nat) (hh : h ≤ 3) (hn : n ≤ 30) (h15 : 15 ≤ n) (W : World) : Calls Tryd.prog 23 #[.string sec, .int .i64 h, .int .i64 n] W (RowPost (madeV sec h n).length (madeV sec h n) W) := by
  refine (refMade_any sec hs h n hh hn h15 W).mono ?_
  rintro e w' ⟨uo, uc, rfl, hr, _, hb⟩
  obtain ⟨g, rfl⟩ := owns_pos hr (made_pos sec h n)
  exact ⟨g, uc, rfl, hr, hb⟩
theorem made_few (sec : ByteArray) (_ : sec.size ≤ 300) (h n : Nat) (hh : h ≤ 3) (hn : n ≤ 30) : (madeV sec h n).length ≤ 10000 := by
  have h8 : 2 ^ h ≤ 2 ^ 3 := Nat.pow_le_pow_right (by decide) hh
  have hk : ∀ i k, (keyT sec i n k).length = k * (n + 2) := fun i k => by
    induction k with
    | zero => simp [keyT]
    | succ k ih => rw [keyT_succ, List.length_append, List.length_append, ih, chainedV_len]; simp only [List.length_cons, List.length_nil]; rw [Nat.succ_mul]; omega
  have hK : ∀ i, (keysT sec n i).length ≤ 1000 * i := fun i => by
    induction i with
    | zero => simp [keysT]
    | succ i ih => rw [keysT_succ, List.length_append, List.length_append, hk]; simp only [List.length_cons, List.length_nil]; omega
  have hU : ∀ t, t ≤ h → (upT sec h t).length ≤ 8 * t := fun t => by
    induction t with
    | zero => intro _; simp [upT]
    | succ t ih =>
      intro ht
      have h9 : 2 ^ (h - (t + 1)) ≤ 2 ^ 3 := Nat.pow_le_pow_right (by decide) (by omega)
      rw [upT_succ, List.length_append]
      have := ih (by omega)
      have e : (nodesT (Sgn.level sec h t) (2 ^ (h - (t + 1)))).length = 2 ^ (h - (t + 1)) := by simp [nodesT]
      omega
  unfold madeV
  rw [List.length_append]
  have h1 := hK (2 ^ h)
  have h2 := hU h (Nat.le_refl _)
  omega

set_option maxRecDepth 100000 in
set_option maxHeartbeats 8000000 in
theorem secrets_any (sec : ByteArray) (hs : sec.size ≤ 140737488351232) (oth : ByteArray) (ho : oth.size ≤ 140737488351232) (x : Int) (hx0 : 0 ≤ x) (hx1 : x ≤ 255) (y : Int) (hy0' : 0 ≤ y) (hy1' : y ≤ 255) (msg : ByteArray) (hm : msg.size ≤ 140737488351232) (W : World) (ht : Tab W) :
    Calls Tryd.prog 8 #[.string sec, .string oth, .int .u8 x, .int .u8 y, .string msg] W fun e W' => e = .returned (.bool true) ∧ Below W.heap.size W W' := by
  obtain ⟨i1, hi1, hy0, hy1, hy2⟩ := info_parts info_str
  have HT := Lib.hid ht
  have HSh := Lib.hid (short3 sec oth msg hs ho hm)
  have HHd := Lib.hid (head_any W ht)
  obtain ⟨b1, Hb1⟩ : ∃ b, Hid (b = (decide (sec.size ≤ 300) && (decide (oth.size ≤ 300) && decide (msg.size ≤ 300)))) := ⟨_, Lib.hid rfl⟩
  rw [← Hb1.out] at HSh
  obtain ⟨a, rfl⟩ : ∃ a : Nat, x = a := ⟨x.toNat, by omega⟩
  obtain ⟨b, rfl⟩ : ∃ a : Nat, y = a := ⟨y.toNat, by omega⟩
  obtain ⟨h, Hh⟩ : ∃ h, Hid (h = a % 3) := ⟨_, Lib.hid rfl⟩
  have hm4 : ((a : Int) % 3) = (h : Int) := by rw [Hh.out]; omega
  have hh3 : h ≤ 2 := by rw [Hh.out]; omega
  obtain ⟨N, HN⟩ : ∃ N, Hid (N = 2 ^ h) := ⟨_, Lib.hid rfl⟩
  have hN : wrap64 ((2 : Int) ^ h) = (N : Int) := by rw [HN.out]; exact wrap_pow h (by omega)
  have hN0 : 0 < N := by rw [HN.out]; exact Nat.pow_pos (by decide)
  have hN8 : N ≤ 4 := by rw [HN.out]; exact (Nat.pow_le_pow_right (by decide) hh3 : 2 ^ h ≤ 2 ^ 2)
  obtain ⟨i, Hi⟩ : ∃ i, Hid (i = b % N) := ⟨_, Lib.hid rfl⟩
  have hmN : ((b : Int) % N) = (i : Int) := by rw [Hi.out]; push_cast; rfl
  have hiN : i < N := by rw [Hi.out]; exact Nat.mod_lt _ hN0
  have hih : i < 2 ^ h := by rw [← HN.out]; exact hiN
  have HM : Hid (msg.size ≤ 140737488351232) := Lib.hid hm
  clear ht hs ho hm
  go_enter Tryd.func8, Tryd.ntmps8
  go_wp2_with fail
  refine HHd.out.mono ?_
  rintro e w1 ⟨rfl, hb⟩
  have HB1 := Lib.hid hb
  clear hb
  go_wp2_with fail
  refine (HSh.out w1).mono ?_
  rintro e _ ⟨rfl, rfl⟩
  obtain ⟨W2, HW2⟩ : ∃ x, Hid (x = w1.alloc (.cells #[.string sec, .string oth, .string msg] 9)) := ⟨_, Lib.hid rfl⟩
  have HB2 : Hid (Below W.heap.size W W2) := Lib.hid (by rw [HW2.out]; exact HB1.out.alloc HB1.out.size _)
  rw [← HW2.out]
  clear HW2
  cases b1 with
  | false =>
    go_wp2_with fail
    go_ret
    exact ⟨rfl, HB2.out⟩
  | true =>
    have hsz : sec.size ≤ 300 ∧ oth.size ≤ 300 := by
      have h := Hb1.out.symm
      rw [Bool.and_eq_true, Bool.and_eq_true] at h
      exact ⟨of_decide_eq_true h.1, of_decide_eq_true h.2.1⟩
    obtain ⟨hs3, ho3⟩ := hsz
    clear Hb1
    have eqb : ∀ x y : ByteArray, (x.toList == y.toList) = decide (x = y) := fun x y => by
      by_cases h : x = y
      · rw [decide_eq_true h, h]; exact beq_self_eq_true _
      · rw [decide_eq_false h]; exact (Lib.bytes_beq_false_iff _ _).2 h
    by_cases hso : sec = oth
    · have q1 : (sec.toList == oth.toList) = true := by rw [eqb, decide_eq_true hso]
      clear eqb hso
      go_wp2_with fail
      go_ret
      exact ⟨rfl, HB2.out⟩
    · have q1 : (sec.toList == oth.toList) = false := by rw [eqb, decide_eq_false hso]
      obtain ⟨pub, Hpub⟩ : ∃ x, Hid (x = Sgn.rootV oth h) := ⟨_, Lib.hid rfl⟩
      obtain ⟨sig, Hsig⟩ : ∃ x, Hid (x = Sgn.sigV sec i msg) := ⟨_, Lib.hid rfl⟩
      obtain ⟨path, Hpath⟩ : ∃ x, Hid (x = Sgn.pathV sec h i) := ⟨_, Lib.hid rfl⟩
      obtain ⟨v, Hv⟩ : ∃ x, Hid (x = Sgn.verifyB pub msg i sig path) := ⟨_, Lib.hid rfl⟩
      have HP : Hid (∀ X, Below W.heap.size W X → Calls Tryd.prog 13 #[.string oth, .int .i64 h] X fun e w' => e = .returned (.tuple #[.string pub, .int .i64 0]) ∧ Below X.heap.size X w') := Lib.hid fun X hX => by
        rw [Hpub.out]; exact public_good oth ho3 h (by omega) X (HT.out.below hX)
      have HS1 : Hid (∀ X, Below W.heap.size W X → Calls Tryd.prog 15 #[.string sec, .int .i64 h, .int .i64 i, .string msg] X fun e w' => (∃ so po c1 c2, e = .returned (.tuple #[.agg #[.int .i64 i, .slice so 18 c1, .slice po h c2], .int .i64 0]) ∧ IsStrs w' so sig ∧ IsStrs w' po path ∧ 18 ≤ c1 ∧ h ≤ c2) ∧ Below X.heap.size X w') := Lib.hid fun X hX => by
        rw [Hsig.out, Hpath.out]; exact callsIn_wide.1 (sign_good sec msg hs3 HM.out h i (by omega) hih X (HT.out.below hX))
      have hl1 : sig.length = 18 := by rw [Hsig.out, Sgn.sig_len]
      have hl2 : path.length = h := by rw [Hpath.out, Sgn.path_len]
      have hi1' : (sig.all fun s => Dig.isB s.data.toList) = true := by rw [Hsig.out]; exact Sgn.sig_is _ _ _
      have hi2' : (path.all fun s => Dig.isB s.data.toList) = true := by rw [Hpath.out]; exact Sgn.path_is _ _ _ (by omega) hih
      have hz : ∀ {l : List ByteArray}, (l.all fun s => Dig.isB s.data.toList) = true → ∀ s ∈ l, s.size ≤ 140737488351232 := fun h s hs => by
        have : s.size = 16 := (Sgn.isB_parts (List.all_eq_true.1 h s hs)).1
        omega
      have HVr : Hid (∀ X so po c1 c2, Below W.heap.size W X → IsStrs X so sig → IsStrs X po path → Calls Tryd.prog 18 #[.string pub, .string msg, .agg #[.int .i64 i, .slice so 18 c1, .slice po h c2]] X fun e w' => e = .returned (.bool v) ∧ Below X.heap.size X w') := Lib.hid fun X so po c1 c2 hX g1 g2 => by
        have := verify_any pub msg HM.out i so po c1 c2 sig path (by omega) (by omega) (hz hi1') (hz hi2') X (HT.out.below hX) g1 g2
        rw [hl1, hl2, ← Hv.out] at this
        exact this
      obtain ⟨l1, Hl1⟩ : ∃ l, Hid (l = madeV sec h 15) := ⟨_, Lib.hid rfl⟩
      obtain ⟨l2, Hl2⟩ : ∃ l, Hid (l = madeV oth h 15) := ⟨_, Lib.hid rfl⟩
      obtain ⟨n1, Hn1⟩ : ∃ l, Hid (l = l1.length) := ⟨_, Lib.hid rfl⟩
      obtain ⟨n2, Hn2⟩ : ∃ l, Hid (l = l2.length) := ⟨_, Lib.hid rfl⟩
      have hn1 : n1 ≤ 10000 := by rw [Hn1.out, Hl1.out]; exact made_few sec hs3 h 15 (by omega) (by decide)
      have hn2 : n2 ≤ 10000 := by rw [Hn2.out, Hl2.out]; exact made_few oth ho3 h 15 (by omega) (by decide)
      have hn20 : 0 < n2 := by rw [Hn2.out, Hl2.out]; exact made_pos _ _ _
      have HM1 : Hid (∀ X, Calls Tryd.prog 23 #[.string sec, .int .i64 h, .int .i64 15] X (RowPost n1 l1 X)) := Lib.hid fun X => by
        rw [Hn1.out, Hl1.out]; exact made_row sec hs3 h 15 (by omega) (by decide) (by decide) X
      have HM2 : Hid (∀ X, Calls Tryd.prog 23 #[.string oth, .int .i64 h, .int .i64 15] X (RowPost n2 l2 X)) := Lib.hid fun X => by
        rw [Hn2.out, Hl2.out]; exact made_row oth ho3 h 15 (by omega) (by decide) (by decide) X
      have HShn : Hid (v = true → ∀ X ao c, IsStrs X ao (l1 ++ l2) → Calls Tryd.prog 22 #[.slice ao (n1 + n2) c] X fun e w' => e = .returned (.bool true) ∧ Below X.heap.size X w') := Lib.hid fun hv X ao c hX => by
        have hlen : (l1 ++ l2).length = n1 + n2 := by rw [List.length_append, Hn1.out, Hn2.out]
        have := refShown_any ao (l1 ++ l2) c (by rw [hlen, Hn1.out, Hn2.out, Hl1.out, Hl2.out]; have h1 := made_few sec hs3 h 15 (by omega) (by decide); have h2 := made_few oth ho3 h 15 (by omega) (by decide); omega) (fun s hs => by
          rw [Hl1.out, Hl2.out] at hs
          rcases List.mem_append.1 hs with hs | hs
          · have := made_size hs3 (show h ≤ 8 by omega) s hs; omega
          · have := made_size ho3 (show h ≤ 8 by omega) s hs; omega) X hX
        rw [hlen] at this
        refine this.mono ?_
        rintro e w' ⟨b, rfl, hb, hB⟩
        have hc : Coll (l1 ++ l2) := by
          rw [Hl1.out, Hl2.out]
          refine secrets_coll hso ?_
          obtain ⟨j, hj, _, hr⟩ := (verify_parts (Hv.out.symm.trans hv)).2.2.2.2
          have hj := Int.ofNat.inj hj
          subst hj
          rw [Hsig.out, Hpath.out, Sgn.root_sig sec h i msg (by omega) hih, Hpub.out] at hr
          exact hr
        exact ⟨by rw [hb hc], hB⟩
      clear hl1 hl2 hi1' hi2' hz hih hs3 ho3 eqb hso
      go_wp2_with fail
      refine (HP.out _ HB2.out).mono ?_
      rintro e w3 ⟨rfl, hb⟩
      have HB3 := Lib.hid (below_step HB2.out hb)
      clear hb
      go_wp2_with fail
      refine (HS1.out _ HB3.out).mono ?_
      rintro e w4 ⟨⟨so, po, c1, c2, rfl, g1, g2, -, -⟩, hb⟩
      have HB4 := Lib.hid (below_step HB3.out hb)
      have HG1 := Lib.hid (And.intro g1 g2)
      clear hb g1 g2
      go_wp2_with fail
      have HB45 : Hid (Below w4.heap.size w4 (w4.alloc (.cells #[.int .i64 i, .slice so 18 c1, .slice po h c2] 24))) := Lib.hid ((Below.refl _ _).alloc (Nat.le_refl _) _)
      refine (HVr.out _ so po c1 c2 (below_step HB4.out HB45.out) (HG1.out.1.below HB45.out) (HG1.out.2.below HB45.out)).mono ?_
      rintro e w5 ⟨rfl, hb⟩
      have HB5 := Lib.hid (below_step (below_step HB4.out HB45.out) hb)
      clear hb
      cases v with
      | false =>
        go_wp2_with fail
        go_ret
        exact ⟨rfl, HB5.out⟩
      | true =>
        have HSn := Lib.hid (HShn.out rfl)
        go_wp2_with fail
        refine (HM1.out _).mono ?_
        rintro e X1 ⟨ga, ca, rfl, hr1, hb1⟩
        have HX1 := Lib.hid hb1
        have HRa := Lib.hid hr1
        clear hr1 hb1
        go_wp2_with fail
        refine (HM2.out _).mono ?_
        rintro e X2 ⟨gb, cb, rfl, hr2, hb2⟩
        have HX2 := Lib.hid (below_step HX1.out hb2)
        have HR1 := Lib.hid (owns_grown HRa.out hb2)
        have HNc := Lib.hid (row_cells (l := l2) (c := cb) (base := X1.heap.size) (by rw [← Hn2.out]; exact hr2))
        have HLn : Hid ((strC l2).length = n2 * 1) := Lib.hid (by rw [Hn2.out]; simp [strC])
        have HLa : Hid (n1 + n2 = (l1 ++ l2).length) := Lib.hid (by rw [List.length_append, Hn1.out, Hn2.out])
        clear hr2 hb2
        go_wp2_with (at_builtin; go_loud (refine wpList_append_guard _ rfl (.tmp 69) (.tmp 72) 22 rfl w5.heap.size 9 i1 (.string ⟨#[]⟩) 1 16 Tryd.underlying22 hi1 hy0 hy1 hy2 rfl (by decide) _ _ _ rfl HR1.out ⟨gb, 0, none⟩ n2 cb (strC l2) rfl HLn.out HNc.out (strC_one _) hn20 (by unfold maxLen; omega) (by omega) HX2.out.size ?_); intro gx cx w10 hown hgrow; have HX3 := Lib.hid ((HX2.out.grown hgrow HX2.out.size (fun j e => (HR1.out.lt j e).1))); have HSt := Lib.hid (strs_of_row (l := l1 ++ l2) (by rw [strC_append]; exact hown) HLa.out); clear hown hgrow)
        refine (HSn.out _ _ _ HSt.out).mono ?_
        rintro e X4 ⟨rfl, hb4⟩
        have HX4 := Lib.hid (HB5.out.trans ((below_step HX3.out hb4).mono HB5.out.size))
        clear hb4
        go_wp2_with fail
        go_ret
        exact ⟨rfl, HX4.out⟩

end Go.Proofs.YtfnbdjjobndgfaaDoor
