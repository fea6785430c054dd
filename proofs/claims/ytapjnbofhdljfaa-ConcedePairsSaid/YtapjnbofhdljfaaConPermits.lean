/- Normal; permits; Permitted. -/
import Derived.Test.YtapjnbofhdljfaaConNormal
import Derived.Test.YtapjnbofhdljfaaConFind
namespace Go.Proofs.Ytapjnbofhdljfaa
open Go.RowKit
open Cat

theorem IsStrs.take {w : World} {ao : Option Addr} {ss : List ByteArray} (h : IsStrs w ao ss) (n : Nat) : IsStrs w ao (ss.take n) := by
  rcases h with h | ⟨bk, off, h1, h2, h3⟩
  · exact Or.inl (by rw [h]; simp)
  · refine Or.inr ⟨bk, off, h1, h2, fun k hk => ?_⟩
    have hk' : k < ss.length := by rw [List.length_take] at hk; omega
    rw [List.getElem_take]; exact h3 k hk'
theorem contains_str (ao : Option Addr) (ss : List ByteArray) (c : Nat) (x : ByteArray) (hl : ss.length ≤ 9223372036854775807) (w : World) (h : IsStrs w ao ss) :
    Calls Try.prog 35 #[.slice ao ss.length c, .string x] w fun e w' => e = .returned (.bool (Con.has ss x)) ∧ w' = w := by
  have hc : Lib.containsS ss x = Con.has ss x := by
    by_cases hx : x ∈ ss
    · rw [(Lib.containsS_iff ss x).2 hx, Con.has_iff.2 hx]
    · have h1 : Lib.containsS ss x = false := by
        cases hq : Lib.containsS ss x with
        | false => rfl
        | true => exact absurd ((Lib.containsS_iff ss x).1 hq) hx
      have h2 : Con.has ss x = false := by
        cases hq : Con.has ss x with
        | false => rfl
        | true => exact absurd (Con.has_iff.1 hq) hx
      rw [h1, h2]
  rcases h with rfl | ⟨bk, off, rfl, h1, h2⟩
  · exact (Try.slices_Contains_string_empty ao c x w).mono fun e w' ⟨h1, h2⟩ => ⟨by rw [h1]; rfl, h2⟩
  · have := Try.slices_Contains_string bk off ss.length c ss x w (Nat.le_refl _) hl (fun j hj => by rw [h2 j hj, List.getD_eq_getElem?_getD, List.getElem?_eq_getElem hj]; rfl)
    rw [List.take_length, hc] at this
    exact this

set_option maxRecDepth 100000 in
set_option maxHeartbeats 4000000 in
theorem normal_any (co : Option Addr) (c : List Knd) (cc : Nat) (kind slot other : ByteArray) (hl : c.length ≤ 9223372036854775807) (W : World) (hi : IsL 3 ElKnd W co c) :
    Calls Try.prog 18 #[.agg #[.slice co c.length cc], .string kind, .string slot, .string other] W fun e w' => e = .returned (.bool (Con.normal c kind slot other)) ∧ Below W.heap.size W w' := by
  obtain ⟨n, Hn⟩ : ∃ n, Hid (n = c.length) := ⟨_, Lib.hid rfl⟩
  obtain ⟨N, HN⟩ : ∃ N, Hid (N = W.heap.size) := ⟨_, Lib.hid rfl⟩
  obtain ⟨V, HV⟩ : ∃ w, Hid (w = W.alloc (.cells #[.slice co n cc] 24)) := ⟨_, Lib.hid rfl⟩
  have HB : Hid (Below W.heap.size W V) := Lib.hid (by rw [HV.out]; exact (Below.refl _ _).alloc (Nat.le_refl _) _)
  have HT := Lib.hid (taken_any co c cc kind slot hl V (hi.below stKnd HB.out))
  unfold Con.normal
  obtain ⟨ks, Hks⟩ : ∃ u, Hid (u = (Con.taken c kind slot).1) := ⟨_, Lib.hid rfl⟩
  obtain ⟨z, Hz⟩ : ∃ u, Hid (u = (Con.taken c kind slot).2) := ⟨_, Lib.hid rfl⟩
  rw [← Hks.out, ← Hz.out] at HT ⊢
  rw [← Hn.out] at HT hl ⊢
  clear hi
  obtain ⟨kl, Hkl⟩ : ∃ u, Hid (u = ks.length) := ⟨_, Lib.hid rfl⟩
  rw [← Hkl.out] at HT ⊢
  obtain ⟨f, Hf⟩ : ∃ u, Hid (u = Con.fit z kl) := ⟨_, Lib.hid rfl⟩
  rw [← Hf.out]
  obtain ⟨u, Hu⟩ : ∃ u, Hid (u = Con.has (ks.take f) other) := ⟨_, Lib.hid rfl⟩
  rw [← Hu.out]
  go_enter Try.func18, Try.ntmps18
  go_wp2_with fail
  rw [← HN.out, ← HV.out]
  refine HT.out.mono ?_
  rintro e w1 ⟨ko, kc, rfl, hk, hk1, hk2, hb⟩
  have HK := Lib.hid hk
  have HB1 := Lib.hid (below_step HB.out hb)
  clear hk hb
  have hfl : f ≤ kl := by rw [Hf.out]; unfold Con.fit; omega
  have hfe : (max 0 (min z (kl : Int))).toNat = f := by rw [Hf.out]; rfl
  have hlt : (ks.take f).length = f := by rw [List.length_take, ← Hkl.out]; omega
  have HC : Hid (Calls Try.prog 35 #[.slice ko f kc, .string other] w1 fun e w' => e = .returned (.bool (Con.has (ks.take f) other)) ∧ w' = w1) := Lib.hid (by
    have := contains_str ko (ks.take f) kc other (by omega) w1 (HK.out.take f)
    rw [hlt] at this
    exact this)
  rw [← Hu.out] at HC
  have Hfe := Lib.hid hfe
  clear hfe
  go_wp2_with fail
  rw [Hfe.out]
  refine HC.out.mono ?_
  rintro e w2 ⟨rfl, rfl⟩
  go_wp2_with fail
  go_ret
  exact ⟨rfl, HB1.out⟩

set_option maxRecDepth 100000 in
set_option maxHeartbeats 4000000 in
theorem perm1_any (q : Prt) (pv : Value) (host : ByteArray) (x : Sb) (g1 g2 : Nat) (W : World) (hpv : ∃ po n pc, pv = .slice po n pc) (h1 : W.cell? ⟨g1, 14, none⟩ = some (.string host)) (h2 : W.cell? ⟨g2, 3, none⟩ = some (.string x.twin)) (h3 : W.cell? ⟨g2, 2, none⟩ = some (.string x.other)) :
    Calls Try.prog 38 #[.agg (ptC q pv).toArray, .pointer (some ⟨g1, 0, none⟩), .pointer (some ⟨g2, 0, none⟩)] W fun e w' => e = .returned (.bool (Con.twin host x q)) ∧ Below W.heap.size W w' := by
  obtain ⟨po, n, pc, rfl⟩ := hpv
  obtain ⟨qn, qk, qi, qs, z4, z5, b6, ps, l0, l1, l2, l3, l4, l5⟩ := q
  obtain ⟨xk, xs, xo, xt, xto⟩ := x
  have l1' := lt_of_cell h1
  have l2' := lt_of_cell h2
  unfold Con.twin ptC
  dsimp only at h2 h3 ⊢
  obtain ⟨b1, e1⟩ : ∃ b, (qi.toList == host.toList) = b := ⟨_, rfl⟩
  obtain ⟨b2, e2⟩ : ∃ b, (qs.toList == xt.toList) = b := ⟨_, rfl⟩
  obtain ⟨b3, e3⟩ : ∃ b, (qk.toList == xo.toList) = b := ⟨_, rfl⟩
  rw [← Con.eq_list, ← Con.eq_list, ← Con.eq_list, e1, e2, e3]
  have HB : Hid (∀ o, Below W.heap.size W (W.alloc o)) := Lib.hid (fun o => (Below.refl _ _).alloc (Nat.le_refl _) _)
  go_enter Try.func38, Try.ntmps38
  cases b1 <;> cases b2
  all_goals
    go_wp2_with fail
    go_ret
    exact ⟨rfl, HB.out _⟩
end Go.Proofs.Ytapjnbofhdljfaa
