/- SignChanges: what follows for a seal that was changed. -/
import Derived.Test.YtfnbdjjobndgfaaDoorSgnBinds
import Derived.Test.YtfnbdjjobndgfaaDoorSgnCopy
namespace Go.Proofs.YtfnbdjjobndgfaaDoor
open Go.RowKit

/-- P2.3: another seal of the same index, or the same list at another index, is accepted only where two texts have one digest. -/
theorem changes_coll {sec m : ByteArray} {h i j : Nat} {sig path : List ByteArray} (hi : i < 2 ^ h) (hv : Sgn.verifyB (Sgn.rootV sec h) m j sig path = true)
    (hne : ¬ (j = i ∧ sig = Sgn.sigV sec i m ∧ path = Sgn.pathV sec h i)) (hk : j = i ∨ sig = Sgn.sigV sec i m) : Coll (madeV sec h 15 ++ checkedV m j sig path) := by
  obtain ⟨q18, q8, _, _, k, hjk, hkp, hr⟩ := verify_parts hv
  have hjk := Int.ofNat.inj hjk
  subst hjk
  refine Classical.byContradiction fun hn => hne ?_
  have hI := not_coll hn
  obtain ⟨e1, e2, e3⟩ := Sgn.sound hI (has_tree fun x hx => List.mem_append_left _ hx) (fun a ha c hc n hn => List.mem_append_left _ (made_chain ha hc hn)) (has_path fun x hx => List.mem_append_right _ hx) (fun c hc n hn => List.mem_append_right _ (checked_chain hc hn)) q18 q8 hkp hr
  have hjh : j < 2 ^ h := by rw [← e1]; exact hkp
  have hji : j = i := by
    rcases hk with hk | hk
    · exact hk
    · rw [hk] at e3
      exact (Sgn.sigs_differ hI (fun c hc => ⟨List.mem_append_left _ (made_start hi hc), fun n hn => List.mem_append_left _ (made_chain hi hc hn)⟩) (fun c hc => ⟨List.mem_append_left _ (made_start hjh hc), fun n hn => List.mem_append_left _ (made_chain hjh hc hn)⟩) e3).symm
  subst hji
  exact ⟨rfl, e3, e2⟩

/-- A list with one element replaced. -/
def putAt (l : List ByteArray) (k : Nat) (x : ByteArray) : List ByteArray := l.set k x
theorem putAt_len (l : List ByteArray) (k : Nat) (x : ByteArray) : (putAt l k x).length = l.length := List.length_set
/-- A row of texts of the call's own with one element replaced. -/
theorem owns_put {w : World} {base g n c : Nat} {l : List ByteArray} (hr : w.ownsRow base 9 1 (.slice (some ⟨g, 0, none⟩) n c) n (strC l)) (k : Nat) (hk : k < n) (x : ByteArray) :
    (w.setCell ⟨g, k, none⟩ (.string x)).ownsRow base 9 1 (.slice (some ⟨g, 0, none⟩) n c) n (strC (putAt l k x)) := by
  rcases hr with ⟨h1, h2 | ⟨g', cap, cur, hv, hB, hc, hle, hm, hcs, htk⟩⟩
  · exact absurd h2.1 (by simp)
  · simp only [Value.slice.injEq, Option.some.injEq, Addr.mk.injEq] at hv
    obtain ⟨⟨rfl, _, _⟩, _, rfl⟩ := hv
    refine ⟨by simpa [strC, putAt] using h1, Or.inr ⟨g, c, cur.setIfInBounds k (.string x), rfl, hB, ?_, hle, hm, by simpa using hcs, ?_⟩⟩
    · simp [World.setCell, Array.getElem?_modify, hc]
    · rw [Array.toList_setIfInBounds, List.take_set, htk]
      unfold strC putAt
      rw [List.map_set]
/-- A new list without elements. -/
theorem empty_row (w : World) (base : Nat) (hb : base ≤ w.heap.size) : (w.alloc (.cells #[] 9)).ownsRow base 9 1 (.slice (some ⟨w.heap.size, 0, none⟩) 0 0) 0 [] :=
  ⟨by simp, Or.inr ⟨w.heap.size, 0, _, rfl, hb, heap_alloc_new w _, Nat.le_refl _, Nat.zero_le _, by simp, by simp⟩⟩
/-- A list's cells, spelled for an append. -/
theorem strs_cells {w : World} {bk off : Nat} {l : List ByteArray} (h : ∀ k, (hk : k < l.length) → w.cell? ⟨bk, off + k, none⟩ = some (.string l[k])) : ∀ (i : Nat) (u : Value), (strC l)[i]? = some u → w.cell? ((⟨bk, off, none⟩ : Addr).add i) = some u := by
  intro i u hu
  have hi : i < l.length := by
    have := (List.getElem?_eq_some_iff.1 hu).1
    unfold strC at this
    rwa [List.length_map] at this
  have e : (⟨bk, off, none⟩ : Addr).add i = ⟨bk, off + i, none⟩ := by unfold Addr.add; split <;> simp_all
  rw [e, h i hi]
  unfold strC at hu
  rw [List.getElem?_map, List.getElem?_eq_getElem hi] at hu
  exact hu

theorem RowAt.far {W w : World} {g n c : Nat} {l : List ByteArray} {p : Addr} (h : RowAt W w g n c l) (hp : g ≠ p.block) (u : Value) : RowAt W (w.setCell p u) g n c l := by
  rcases h with ⟨h1, h2 | ⟨g', cap, cur, hv, hB, hc, rest⟩⟩
  · exact ⟨h1, Or.inl h2⟩
  · have hg : g = g' := by
      simp only [Value.slice.injEq, Option.some.injEq, Addr.mk.injEq, and_true] at hv
      exact hv.1
    exact ⟨h1, Or.inr ⟨g', cap, cur, hv, hB, (Below.heap_setCell w p u g' (hg ▸ hp)).trans hc, rest⟩⟩
theorem putAt_size {l : List ByteArray} {k : Nat} {x : ByteArray} {N : Nat} (h : ∀ s ∈ l, s.size ≤ N) (hx : x.size ≤ N) : ∀ s ∈ putAt l k x, s.size ≤ N := fun s hs => by
  unfold putAt at hs
  rcases List.mem_or_eq_of_mem_set hs with hs | rfl
  · exact h s hs
  · exact hx
theorem Whole.row_ne {W w : World} {b g n c : Nat} {l : List ByteArray} {cs : Array Value} (h : Whole w b 24 cs) (hr : RowAt W w g n c l) : b ≠ g := by
  rcases hr.2 with ⟨h2, _⟩ | ⟨g', cap, cur, hv, hB, hc, _⟩
  · simp at h2
  · simp only [Value.slice.injEq, Option.some.injEq, Addr.mk.injEq, and_true, true_and] at hv
    obtain ⟨rfl, _⟩ := hv
    exact Whole.apart h hc (by decide)
/-- What is asked of the bad seal, where it is accepted and another one. -/
theorem chg_coll {sec m : ByteArray} {h i j : Nat} {sig path : List ByteArray} (hi : i < 2 ^ h) (hv : Sgn.verifyB (Sgn.rootV sec h) m j sig path = true)
    (hs : sameS (j : Int) (i : Int) sig path (Sgn.sigV sec i m) (Sgn.pathV sec h i) = false) (hk : j = i ∨ sig = Sgn.sigV sec i m) : Coll (madeV sec h 15 ++ checkedV m j sig path) := by
  refine changes_coll hi hv (fun hx => ?_) hk
  obtain ⟨rfl, h2, h3⟩ := hx
  unfold sameS at hs
  rw [sameB_true h2, sameB_true h3] at hs
  simp at hs

/-- What the callees say of a changed seal in a world. -/
structure TailC (X : World) (pub msg sec : ByteArray) (h i j : Nat) (so po : Option Addr) (c1 c2 g1 d1 g2 d2 : Nat) (sm v : Bool) (l1 l2 : List ByteArray) (n1 n2 : Nat) : Prop where
  same : ∀ Y, Below X.heap.size X Y → Calls Tryd.prog 17 #[.agg #[.int .i64 j, .slice (some ⟨g1, 0, none⟩) 18 d1, .slice (some ⟨g2, 0, none⟩) h d2], .agg #[.int .i64 i, .slice so 18 c1, .slice po h c2]] Y fun e w' => e = .returned (.bool sm) ∧ Below Y.heap.size Y w'
  verify : ∀ Y, Below X.heap.size X Y → Calls Tryd.prog 18 #[.string pub, .string msg, .agg #[.int .i64 j, .slice (some ⟨g1, 0, none⟩) 18 d1, .slice (some ⟨g2, 0, none⟩) h d2]] Y fun e w' => e = .returned (.bool v) ∧ Below Y.heap.size Y w'
  made : ∀ Y, Calls Tryd.prog 23 #[.string sec, .int .i64 h, .int .i64 15] Y (RowPost n1 l1 Y)
  checked : sm = false → v = true → ∀ Y, Below X.heap.size X Y → Calls Tryd.prog 24 #[.string msg, .agg #[.int .i64 j, .slice (some ⟨g1, 0, none⟩) 18 d1, .slice (some ⟨g2, 0, none⟩) h d2]] Y fun e w' => (∃ b o c, e = .returned (.slice (some ⟨b, o, none⟩) n2 c) ∧ ∀ (i : Nat) (u : Value), (strC l2)[i]? = some u → w'.cell? ((⟨b, o, none⟩ : Addr).add i) = some u) ∧ Below Y.heap.size Y w'
  shown : sm = false → v = true → ∀ Y ao c, IsStrs Y ao (l1 ++ l2) → Calls Tryd.prog 22 #[.slice ao (n1 + n2) c] Y fun e w' => e = .returned (.bool true) ∧ Below Y.heap.size Y w'
  len1 : n1 = l1.length
  len2 : n2 = l2.length
  few1 : n1 ≤ 10000
  few2 : n2 ≤ 10000
  pos2 : 0 < n2
theorem tail_contracts (sec msg : ByteArray) (hs3 : sec.size ≤ 300) (hm : msg.size ≤ 140737488351232) (h i j : Nat) (hh : h ≤ 2) (hih : i < 2 ^ h) (hj : j ≤ 4) (pub : ByteArray) (sig path sigb pathb : List ByteArray) (hpub : pub = Sgn.rootV sec h) (hsig : sig = Sgn.sigV sec i msg) (hpath : path = Sgn.pathV sec h i)
    (ha1 : sig.length = 18) (ha2 : path.length = h) (hl1 : sigb.length = 18) (hl2 : pathb.length = h) (hz1 : ∀ s ∈ sigb, s.size ≤ 140737488351232) (hz2 : ∀ s ∈ pathb, s.size ≤ 140737488351232) (hk : j = i ∨ sigb = sig) (X : World) (ht : Tab X) (so po : Option Addr) (c1 c2 g1 d1 g2 d2 : Nat)
    (hg1 : IsStrs X so sig) (hg2 : IsStrs X po path) (hb1 : IsStrs X (some ⟨g1, 0, none⟩) sigb) (hb2 : IsStrs X (some ⟨g2, 0, none⟩) pathb) : ∃ sm v l1 l2 n1 n2, TailC X pub msg sec h i j so po c1 c2 g1 d1 g2 d2 sm v l1 l2 n1 n2 := by
  obtain ⟨l2, Hl2⟩ : ∃ l, l = checkedV msg j sigb pathb := ⟨_, rfl⟩
  obtain ⟨n2, Hn2⟩ : ∃ n, n = l2.length := ⟨_, rfl⟩
  have hz16 : ∀ l : List ByteArray, (l.all fun s => Dig.isB s.data.toList) = true → ∀ s ∈ l, s.size = 16 := fun _ h s hs => (Sgn.isB_parts (List.all_eq_true.1 h s hs)).1
  refine ⟨sameS j i sigb pathb sig path, Sgn.verifyB pub msg j sigb pathb, madeV sec h 15, l2, (madeV sec h 15).length, n2, fun Y hY => ?_, fun Y hY => ?_, fun Y => made_row sec hs3 h 15 (by omega) (by decide) (by decide) Y, fun _ hv Y hY => ?_, fun hsm hv Y ao c hX => ?_, rfl, Hn2, made_few sec hs3 h 15 (by omega) (by decide), ?_, ?_⟩
  · have := same_any (j : Int) (i : Int) (some ⟨g1, 0, none⟩) (some ⟨g2, 0, none⟩) so po d1 d2 c1 c2 sigb pathb sig path ⟨by omega, by omega, by omega, by omega⟩ Y (hb1.below hY) (hb2.below hY) (hg1.below hY) (hg2.below hY)
    rw [hl1, hl2, ha1, ha2] at this
    exact this
  · have := verify_any pub msg hm j (some ⟨g1, 0, none⟩) (some ⟨g2, 0, none⟩) d1 d2 sigb pathb (by omega) (by omega) hz1 hz2 Y (ht.below hY) (hb1.below hY) (hb2.below hY)
    rw [hl1, hl2] at this
    exact this
  · obtain ⟨_, _, q1, q2, _⟩ := verify_parts hv
    have := checked_row msg hm j (some ⟨g1, 0, none⟩) (some ⟨g2, 0, none⟩) d1 d2 sigb pathb hl1 (by omega) (by omega) (hz16 _ q1) (hz16 _ q2) Y (hb1.below hY) (hb2.below hY) l2 n2 Hl2 Hn2
    rw [hl2] at this
    exact this
  · obtain ⟨_, _, q1, q2, _⟩ := verify_parts hv
    have hlen : (madeV sec h 15 ++ l2).length = (madeV sec h 15).length + n2 := by rw [List.length_append, Hn2]
    have hf1 := made_few sec hs3 h 15 (by omega) (by decide)
    have hf2 : l2.length ≤ 10000 := by rw [Hl2]; exact checked_few _ _ _ _ (by omega)
    have := refShown_any ao (madeV sec h 15 ++ l2) c (by omega) (fun s hs => by
      rcases List.mem_append.1 hs with hs | hs
      · have := made_size hs3 (show h ≤ 8 by omega) s hs; omega
      · rw [Hl2] at hs
        have := checked_size hl1 (hz16 _ q1) (hz16 _ q2) s hs; omega) Y hX
    rw [hlen] at this
    refine this.mono ?_
    rintro e w' ⟨b, rfl, hb, hB⟩
    have hc : Coll (madeV sec h 15 ++ l2) := by
      rw [Hl2]
      rw [hpub] at hv
      rw [hsig, hpath] at hsm
      exact chg_coll hih hv hsm (by rw [← hsig]; exact hk)
    exact ⟨by rw [hb hc], hB⟩
  · rw [Hn2, Hl2]; exact checked_few _ _ _ _ (by omega)
  · rw [Hn2, Hl2]; unfold checkedV; simp; omega

set_option maxRecDepth 100000 in
set_option maxHeartbeats 8000000 in
theorem changes_any (sec : ByteArray) (hs : sec.size ≤ 140737488351232) (x : Int) (hx0 : 0 ≤ x) (hx1 : x ≤ 255) (y : Int) (hy0' : 0 ≤ y) (hy1' : y ≤ 255) (msg : ByteArray) (hm : msg.size ≤ 140737488351232) (z : Int) (hz0' : 0 ≤ z) (hz1' : z ≤ 255) (oth : ByteArray) (ho : oth.size ≤ 140737488351232) (W : World) (ht : Tab W) :
    Calls Tryd.prog 7 #[.string sec, .int .u8 x, .int .u8 y, .string msg, .int .u8 z, .string oth] W fun e W' => e = .returned (.bool true) ∧ Below W.heap.size W W' := by
  obtain ⟨i1, hi1, hy0, hy1, hy2⟩ := info_parts info_str
  have HT := Lib.hid ht
  have HSh := Lib.hid (short3 sec msg oth hs hm ho)
  have HHd := Lib.hid (head_any W ht)
  obtain ⟨b1, Hb1⟩ : ∃ b, Hid (b = (decide (sec.size ≤ 300) && (decide (msg.size ≤ 300) && decide (oth.size ≤ 300)))) := ⟨_, Lib.hid rfl⟩
  rw [← Hb1.out] at HSh
  obtain ⟨a, rfl⟩ : ∃ a : Nat, x = a := ⟨x.toNat, by omega⟩
  obtain ⟨b, rfl⟩ : ∃ a : Nat, y = a := ⟨y.toNat, by omega⟩
  obtain ⟨t, rfl⟩ : ∃ a : Nat, z = a := ⟨z.toNat, by omega⟩
  obtain ⟨h, Hh⟩ : ∃ h, Hid (h = a % 3) := ⟨_, Lib.hid rfl⟩
  have hm4 : ((a : Int) % 3) = (h : Int) := by rw [Hh.out]; omega
  have hh3 : h ≤ 2 := by rw [Hh.out]; omega
  obtain ⟨N, HN⟩ : ∃ N, Hid (N = 2 ^ h) := ⟨_, Lib.hid rfl⟩
  have hN : wrap64 ((2 : Int) ^ h) = (N : Int) := by rw [HN.out]; exact wrap_pow h (by omega)
  have hN0 : 0 < N := by rw [HN.out]; exact Nat.pow_pos (by decide)
  have hN8 : N ≤ 4 := by rw [HN.out]; exact (Nat.pow_le_pow_right (by decide) hh3 : 2 ^ h ≤ 2 ^ 2)
  obtain ⟨i, Hi⟩ : ∃ i, Hid (i = b % N) := ⟨_, Lib.hid rfl⟩
  have hmN : ((b : Int) % N) = (i : Int) := by rw [Hi.out]; push_cast; rfl
  have hiN : i < N := by rw [Hi.out]; exact Nat.mod_lt _ hN0
  have hih : i < 2 ^ h := by rw [← HN.out]; exact hiN
  obtain ⟨k, Hk⟩ : ∃ k, Hid (k = t % (19 + h)) := ⟨_, Lib.hid rfl⟩
  obtain ⟨D, HD⟩ : ∃ D, Hid (D = 19 + h) := ⟨_, Lib.hid rfl⟩
  have hD : (19 + (h : Int)) = (D : Int) := by rw [HD.out]; push_cast; rfl
  have hD1 : (D : Int) ≤ 21 := by rw [HD.out]; omega
  have hD0 : (0 : Int) < D := by rw [HD.out]; omega
  have hmk : ((t : Int) % (D : Int)) = (k : Int) := by rw [Hk.out, HD.out]; push_cast; rfl
  have hk19 : k < 19 + h := by rw [Hk.out]; exact Nat.mod_lt _ (by omega)
  have HM : Hid (msg.size ≤ 140737488351232 ∧ oth.size ≤ 140737488351232) := Lib.hid ⟨hm, ho⟩
  clear ht hs ho hm
  go_enter Tryd.func7, Tryd.ntmps7
  go_wp2_with fail
  refine HHd.out.mono ?_
  rintro e w1 ⟨rfl, hb⟩
  have HB1 := Lib.hid hb
  clear hb
  go_wp2_with fail
  refine (HSh.out w1).mono ?_
  rintro e _ ⟨rfl, rfl⟩
  obtain ⟨W2, HW2⟩ : ∃ x, Hid (x = w1.alloc (.cells #[.string sec, .string msg, .string oth] 9)) := ⟨_, Lib.hid rfl⟩
  have HB2 : Hid (Below W.heap.size W W2) := Lib.hid (by rw [HW2.out]; exact HB1.out.alloc HB1.out.size _)
  rw [← HW2.out]
  clear HW2
  cases b1 with
  | false =>
    go_wp2_with fail
    go_ret
    exact ⟨rfl, HB2.out⟩
  | true =>
    have hs3 : sec.size ≤ 300 := by
      have h := Hb1.out.symm
      rw [Bool.and_eq_true] at h
      exact of_decide_eq_true h.1
    clear Hb1
    obtain ⟨pub, Hpub⟩ : ∃ x, Hid (x = Sgn.rootV sec h) := ⟨_, Lib.hid rfl⟩
    obtain ⟨sig, Hsig⟩ : ∃ x, Hid (x = Sgn.sigV sec i msg) := ⟨_, Lib.hid rfl⟩
    obtain ⟨path, Hpath⟩ : ∃ x, Hid (x = Sgn.pathV sec h i) := ⟨_, Lib.hid rfl⟩
    have HP : Hid (∀ X, Below W.heap.size W X → Calls Tryd.prog 13 #[.string sec, .int .i64 h] X fun e w' => e = .returned (.tuple #[.string pub, .int .i64 0]) ∧ Below X.heap.size X w') := Lib.hid fun X hX => by
      rw [Hpub.out]; exact public_good sec hs3 h (by omega) X (HT.out.below hX)
    have HS1 : Hid (∀ X, Below W.heap.size W X → Calls Tryd.prog 15 #[.string sec, .int .i64 h, .int .i64 i, .string msg] X fun e w' => (∃ so po c1 c2, e = .returned (.tuple #[.agg #[.int .i64 i, .slice so 18 c1, .slice po h c2], .int .i64 0]) ∧ IsStrs w' so sig ∧ IsStrs w' po path ∧ 18 ≤ c1 ∧ h ≤ c2) ∧ Below X.heap.size X w') := Lib.hid fun X hX => by
      rw [Hsig.out, Hpath.out]; exact callsIn_wide.1 (sign_good sec msg hs3 HM.out.1 h i (by omega) hih X (HT.out.below hX))
    have hl1 : sig.length = 18 := by rw [Hsig.out, Sgn.sig_len]
    have hl2 : path.length = h := by rw [Hpath.out, Sgn.path_len]
    have hz : ∀ {l : List ByteArray}, (l.all fun s => Dig.isB s.data.toList) = true → ∀ s ∈ l, s.size ≤ 140737488351232 := fun h s hs => by
      have : s.size = 16 := (Sgn.isB_parts (List.all_eq_true.1 h s hs)).1
      omega
    have HL : Hid ((sig.length = 18 ∧ path.length = h) ∧ (∀ s ∈ sig, s.size ≤ 140737488351232) ∧ ∀ s ∈ path, s.size ≤ 140737488351232) := Lib.hid ⟨⟨hl1, hl2⟩, hz (by rw [Hsig.out]; exact Sgn.sig_is _ _ _), hz (by rw [Hpath.out]; exact Sgn.path_is _ _ _ (by omega) hih)⟩
    clear hl1 hl2 hz
    have hz16 : ∀ l : List ByteArray, (l.all fun s => Dig.isB s.data.toList) = true → ∀ s ∈ l, s.size = 16 := fun _ h s hs => (Sgn.isB_parts (List.all_eq_true.1 h s hs)).1
    have HZ : Hid _ := Lib.hid hz16
    clear hz16
    have HIH := Lib.hid hih
    have HS3 := Lib.hid hs3
    clear hih hs3
    go_wp2_with fail
    refine (HP.out _ HB2.out).mono ?_
    rintro e w3 ⟨rfl, hb⟩
    have HB3 := Lib.hid (below_step HB2.out hb)
    clear hb
    go_wp2_with fail
    refine (HS1.out _ HB3.out).mono ?_
    rintro e w4 ⟨⟨so, po, c1, c2, rfl, g1, g2, -, -⟩, hb⟩
    have HB4 := Lib.hid (below_step HB3.out hb)
    have HG1 := Lib.hid (And.intro g1 g2)
    clear hb g1 g2
    go_wp2_with fail
    obtain ⟨W5, HW5⟩ : ∃ x, Hid (x = w4.alloc (.cells #[.int .i64 i, .slice so 18 c1, .slice po h c2] 24)) := ⟨_, Lib.hid rfl⟩
    have HB45 : Hid (Below w4.heap.size w4 W5) := Lib.hid (by rw [HW5.out]; exact (Below.refl _ _).alloc (Nat.le_refl _) _)
    obtain ⟨A, HAq⟩ : ∃ x, Hid (x = w4.heap.size) := ⟨_, Lib.hid rfl⟩
    have HA5 : Hid (Whole W5 A 24 #[.int .i64 i, .slice so 18 c1, .slice po h c2]) := Lib.hid (by rw [HAq.out, HW5.out]; exact Whole.new _ _ _)
    rw [← HW5.out, ← HAq.out]
    have HB5 := Lib.hid (below_step HB4.out HB45.out)
    have HG5 := Lib.hid (And.intro (HG1.out.1.below HB45.out) (HG1.out.2.below HB45.out))
    clear HW5
    have HA5c := Lib.hid (seal_cells (Below.refl _ _) HA5.out)
    apply wp_region_ent 133 (ChT W5 A i so po c1 c2 h sig path) (by kernel_rfl) (by kernel_rfl) rfl ChT.start
    · intro j o ho e w A' hT hej hwt hsee haway
      have hA5 := HA5.out.lt
      have hcell : ∀ n, w.cell? ⟨A, n, none⟩ = W5.cell? ⟨A, n, none⟩ := fun n => hT.below.cell (p := ⟨A, n, none⟩) hA5
      have h18 : A'.eval (.tmp 18) = .pointer (some ⟨A, 0, none⟩) := (haway 18 (by kernel_rfl)).trans rfl
      have no5 : ∀ {j : Nat} {P : Prop}, j ≠ 5 → j = 5 → P := fun h1 h2 => absurd h2 h1
      have no9 : ∀ {j : Nat} {P : Prop}, j ≠ 9 → j = 9 → P := fun h1 h2 => absurd h2 h1
      have hj : j < 13 := by have := (List.getElem?_eq_some_iff.1 ho).1; simpa using this
      have hj : j = 0 ∨ j = 1 ∨ j = 2 ∨ j = 3 ∨ j = 4 ∨ j = 5 ∨ j = 6 ∨ j = 7 ∨ j = 8 ∨ j = 9 ∨ j = 10 ∨ j = 11 ∨ j = 12 := by omega
      rcases hj with rfl | rfl | rfl | rfl | rfl | rfl | rfl | rfl | rfl | rfl | rfl | rfl | rfl
      all_goals
        simp only [List.getElem?_cons_succ, List.getElem?_cons_zero, Option.some.injEq] at ho
        subst ho
      · exact wp_of_run (run_field_seal _ _ _ _ _ _ _ 18 A 0 (Or.inl rfl) h18) ⟨_, rfl, hT.step (by decide) (Below.refl _ _) rfl (no5 (by decide)) (no9 (by decide))⟩
      · have q := hT.each 0 _ (hsee 71 (by decide) 0 rfl)
        exact wp_of_run (run_load_int _ _ _ _ _ _ _ 71 _ _ q ((hcell 0).trans HA5c.out.1)) ⟨_, rfl, hT.step (by decide) (Below.refl _ _) rfl (no5 (by decide)) (no9 (by decide))⟩
      · exact wp_of_run (run_empty_strs _ _ _ _ _ _ _) ⟨_, rfl, hT.step (by decide) ((Below.refl _ _).alloc (Nat.le_refl _) _) ⟨_, rfl, hT.below.size, Whole.new _ _ _⟩ (no5 (by decide)) (no9 (by decide))⟩
      · exact wp_of_run (run_field_seal _ _ _ _ _ _ _ 18 A 1 (Or.inr (Or.inl rfl)) h18) ⟨_, rfl, hT.step (by decide) (Below.refl _ _) rfl (no5 (by decide)) (no9 (by decide))⟩
      · have q := hT.each 3 _ (hsee 74 (by decide) 3 rfl)
        exact wp_of_run (run_load_strs _ _ _ _ _ _ _ 74 _ _ q ((hcell 1).trans HA5c.out.2.1)) ⟨_, rfl, hT.step (by decide) (Below.refl _ _) rfl (no5 (by decide)) (no9 (by decide))⟩
      · obtain ⟨g0, q1, q2, q3⟩ := hT.each 2 _ (hsee 73 (by decide) 2 rfl)
        have q4 := hT.each 4 _ (hsee 75 (by decide) 4 rfl)
        obtain ⟨g, cap, w', hr, r1, r2, r3⟩ := run_copy_strs 22 g0 q3 W5.heap.size q2 sig 18 HL.out.1.1.symm (by omega) so c1 (HG5.out.1.below hT.below)
        obtain rfl := r3.resolve_left (by omega)
        refine wp_of_run (run_append_op _ _ _ _ _ _ _ _ 73 75 _ _ _ q1 q4 hr) ⟨_, rfl, hT.step (by decide) r2 ⟨_, _, rfl, r1⟩ (fun _ g1 d1 g2 d2 e1 e9 _ => ?_) (no9 (by decide))⟩
        obtain ⟨g', c', e', hrow⟩ := hT.each 9 _ e9
        simp only [Value.slice.injEq, Option.some.injEq, Addr.mk.injEq, and_true, true_and] at e1 e'
        obtain ⟨rfl, _⟩ := e1
        obtain ⟨rfl, _⟩ := e'
        have := hrow.lt
        omega
      · exact wp_of_run (run_empty_strs _ _ _ _ _ _ _) ⟨_, rfl, hT.step (by decide) ((Below.refl _ _).alloc (Nat.le_refl _) _) ⟨_, rfl, hT.below.size, Whole.new _ _ _⟩ (no5 (by decide)) (no9 (by decide))⟩
      · exact wp_of_run (run_field_seal _ _ _ _ _ _ _ 18 A 2 (Or.inr (Or.inr rfl)) h18) ⟨_, rfl, hT.step (by decide) (Below.refl _ _) rfl (no5 (by decide)) (no9 (by decide))⟩
      · have q := hT.each 7 _ (hsee 78 (by decide) 7 rfl)
        exact wp_of_run (run_load_strs _ _ _ _ _ _ _ 78 _ _ q ((hcell 2).trans HA5c.out.2.2)) ⟨_, rfl, hT.step (by decide) (Below.refl _ _) rfl (no5 (by decide)) (no9 (by decide))⟩
      · obtain ⟨g0, q1, q2, q3⟩ := hT.each 6 _ (hsee 77 (by decide) 6 rfl)
        have q4 := hT.each 8 _ (hsee 79 (by decide) 8 rfl)
        obtain ⟨g, cap, w', hr, r1, r2, r3⟩ := run_copy_strs 22 g0 q3 W5.heap.size q2 path h HL.out.1.2.symm (by omega) po c2 (HG5.out.2.below hT.below)
        refine wp_of_run (run_append_op _ _ _ _ _ _ _ _ 77 79 _ _ _ q1 q4 hr) ⟨_, rfl, hT.step (by decide) r2 ⟨_, _, rfl, r1⟩ (no5 (by decide)) (fun _ g1 d1 g2 d2 e5 e1 hh => ?_)⟩
        obtain rfl := r3.resolve_left hh
        obtain ⟨g', c', e', hrow⟩ := hT.each 5 _ e5
        simp only [Value.slice.injEq, Option.some.injEq, Addr.mk.injEq, and_true, true_and] at e1 e'
        obtain ⟨rfl, _⟩ := e1
        obtain ⟨rfl, _⟩ := e'
        have := hrow.lt
        omega
      · have e5 := hsee 76 (by decide) 5 rfl
        have e9 := hsee 80 (by decide) 9 rfl
        have q := hT.each 1 _ (hsee 72 (by decide) 1 rfl)
        obtain ⟨g1, d1, p1, r1⟩ := hT.each 5 _ e5
        obtain ⟨g2, d2, p2, r2⟩ := hT.each 9 _ e9
        rw [p1] at e5
        rw [p2] at e9
        exact wp_of_run (run_build_seal _ _ _ _ _ _ _ 72 76 80 _ _ _ _ _ _ _ q p1 p2) ⟨_, rfl, hT.step (by decide) (Below.refl _ _) ⟨_, _, _, _, rfl, r1, r2, hT.apart _ _ _ _ e5 e9⟩ (no5 (by decide)) (no9 (by decide))⟩
      · have h12 : e 12 = none := by
          cases hx : e 12 with
          | none => rfl
          | some u => obtain ⟨v, hv⟩ := hT.after u hx; rw [hej] at hv; cases hv
        exact wp_of_run (run_alloc_seal _ _ _ _ _ _ _) ⟨_, rfl, hT.alloc h12⟩
      · have e11 := hsee 20 (by decide) 11 rfl
        obtain ⟨b20, p1, p2, p3, _⟩ := hT.cell _ e11
        obtain ⟨g1, d1, g2, d2, p4, p5⟩ := hT.each 10 _ (hsee 81 (by decide) 10 rfl)
        rw [p1] at e11
        obtain ⟨w', hr, r1, r2, r3, r4⟩ := run_store_seal _ _ _ _ _ _ _ 20 81 b20 _ _ _ _ _ _ _ _ _ _ p1 p4 (p3 hej)
        exact wp_of_skip hr ⟨_, rfl, hT.store hej e11 p5 r1 r3 r4 _⟩
    · intro e w hT hall
      obtain ⟨v0, h0⟩ := hall 0 (by decide)
      obtain ⟨v1, h1⟩ := hall 1 (by decide)
      obtain ⟨v2, h2⟩ := hall 2 (by decide)
      obtain ⟨v3, h3⟩ := hall 3 (by decide)
      obtain ⟨v4, h4⟩ := hall 4 (by decide)
      obtain ⟨v5, h5⟩ := hall 5 (by decide)
      obtain ⟨v6, h6⟩ := hall 6 (by decide)
      obtain ⟨v7, h7⟩ := hall 7 (by decide)
      obtain ⟨v8, h8⟩ := hall 8 (by decide)
      obtain ⟨v9, h9⟩ := hall 9 (by decide)
      obtain ⟨v10, h10⟩ := hall 10 (by decide)
      obtain ⟨v11, h11⟩ := hall 11 (by decide)
      obtain ⟨v12, h12⟩ := hall 12 (by decide)
      obtain ⟨B, rfl, hB0, -, hB1⟩ := hT.cell _ h11
      obtain ⟨g1, d1, g2, d2, hWB, hbad⟩ := hB1 _ h12
      have HB6 := Lib.hid (below_step HB5.out hT.below)
      have HA6 := Lib.hid ((hT.below.block _ HA5.out.lt).trans HA5.out)
      have HG6 := Lib.hid (And.intro (HG5.out.1.below hT.below) (HG5.out.2.below hT.below))
      have HWB := Lib.hid hWB
      have HBad := Lib.hid hbad
      have HB05 : Hid (W5.heap.size ≤ B) := Lib.hid hB0
      have HAB : Hid (A < B) := Lib.hid (Nat.lt_of_lt_of_le HA5.out.lt hB0)
      have HB56 := Lib.hid hT.below
      simp only [List.length_cons, List.length_nil, Nat.reduceAdd, fillTo, h0, h1, h2, h3, h4, h5, h6, h7, h8, h9, h10, h11, h12, dstOf]
      clear hT hall h0 h1 h2 h3 h4 h5 h6 h7 h8 h9 h10 h11 h12 hB0 hB1 hWB hbad
      have HAc := Lib.hid (seal_cells (Below.refl _ _) HA6.out)
      have HNB : Hid (B ≠ g1 ∧ B ≠ g2) := Lib.hid ⟨HWB.out.row_ne HBad.out.1, HWB.out.row_ne HBad.out.2.1⟩
      have HNA : Hid (A ≠ g1 ∧ A ≠ g2) := Lib.hid ⟨by have := HBad.out.1.lt; have := HA5.out.lt; omega, by have := HBad.out.2.1.lt; have := HA5.out.lt; omega⟩
      by_cases hk18 : k < 18
      · have hk1 : (k : Int) < 18 := by omega
        have hk2 : decide ((k : Int) < 18) = true := decide_eq_true hk1
        obtain ⟨kB0, kB1, kB2⟩ := seal_cells (Below.refl _ _) HWB.out
        obtain ⟨kA0, kA1, kA2⟩ := HAc.out
        have nB : ¬ B = g1 := HNB.out.1
        have nA : ¬ A = g1 := HNA.out.1
        have kE : w.cell? ⟨g1, k, none⟩ = some (.string (sig[k]'(by have := HL.out.1.1; omega))) := by
          rw [HBad.out.1.cellAt k hk18, List.getElem?_map, List.getElem?_eq_getElem (by have := HL.out.1.1; omega)]; rfl
        have kF : w.frozen? ⟨g1, k, none⟩ = false := HBad.out.1.frozenAt k
        go_wp2_with fail
        obtain ⟨X, HX⟩ : ∃ x, Hid (x = w.setCell ⟨g1, k, none⟩ (.string oth)) := ⟨_, Lib.hid rfl⟩
        have hsB : Below W.heap.size w X := by rw [HX.out]; exact (Below.refl _ _).setCell (by have := HBad.out.1.lt; have := HB5.out.size; show _ ≤ g1; omega) _
        have hs5 : Below W5.heap.size w X := by rw [HX.out]; exact (Below.refl _ _).setCell (by have := HBad.out.1.lt; show _ ≤ g1; omega) _
        have HBX := Lib.hid (HB6.out.trans hsB)
        have HX5 := Lib.hid (HB56.out.trans hs5)
        have HWX : Hid (Whole X B 24 #[.int .i64 i, .slice (some ⟨g1, 0, none⟩) 18 d1, .slice (some ⟨g2, 0, none⟩) h d2]) := Lib.hid (by rw [HX.out]; exact HWB.out.far (p := ⟨g1, k, none⟩) nB _)
        obtain ⟨sigb, Hsb⟩ : ∃ l, Hid (l = putAt sig k oth) := ⟨_, Lib.hid rfl⟩
        have hI1 : IsStrs X (some ⟨g1, 0, none⟩) sigb := by
          rw [HX.out, Hsb.out]
          exact strs_of_row (owns_put HBad.out.1 k hk18 oth) (by rw [putAt_len]; exact HL.out.1.1.symm)
        have hI2 : IsStrs X (some ⟨g2, 0, none⟩) path := by
          by_cases h0 : h = 0
          · left; have := HL.out.1.2; exact List.length_eq_zero_iff.1 (by omega)
          · rw [HX.out]
            exact strs_of_row (HBad.out.2.1.far (p := ⟨g1, k, none⟩) (fun hx => HBad.out.2.2 h0 hx.symm) _) HL.out.1.2.symm
        have hN4 : i ≤ 4 := by omega
        obtain ⟨sm, v, l1, l2, n1, n2, hC⟩ := tail_contracts sec msg HS3.out HM.out.1 h i i hh3 HIH.out hN4 pub sig path sigb path Hpub.out Hsig.out Hpath.out HL.out.1.1 HL.out.1.2 (by rw [Hsb.out, putAt_len]; exact HL.out.1.1) HL.out.1.2 (by rw [Hsb.out]; exact putAt_size HL.out.2.1 HM.out.2) HL.out.2.2 (Or.inl rfl) X (HT.out.below HBX.out) so po c1 c2 g1 d1 g2 d2 (HG5.out.1.below HX5.out) (HG5.out.2.below HX5.out) hI1 hI2
        rw [← HX.out]
        clear kB0 kB1 kB2 kA0 kA1 kA2 nB nA kE kF hsB hs5 hI1 hI2
        have HC := Lib.hid hC
        clear hC
        refine (HC.out.same X (Below.refl _ _)).mono ?_
        rintro e w7 ⟨rfl, hb⟩
        have HB7 := Lib.hid (below_step HBX.out hb)
        have HX7 := Lib.hid hb
        have HW7 : Hid (Whole w7 B 24 #[.int .i64 i, .slice (some ⟨g1, 0, none⟩) 18 d1, .slice (some ⟨g2, 0, none⟩) h d2]) := Lib.hid ((hb.block _ HWX.out.lt).trans HWX.out)
        clear hb
        cases sm with
        | true =>
          go_wp2_with fail
          go_ret
          exact ⟨rfl, HB7.out⟩
        | false =>
          obtain ⟨k0, k1, k2⟩ := seal_cells (Below.refl _ _) HW7.out
          go_wp2_with fail
          refine (HC.out.verify w7 HX7.out).mono ?_
          rintro e w8 ⟨rfl, hb⟩
          have HB8 := Lib.hid (below_step HB7.out hb)
          have HX8 := Lib.hid (below_step HX7.out hb)
          have HW8 : Hid (Whole w8 B 24 #[.int .i64 i, .slice (some ⟨g1, 0, none⟩) 18 d1, .slice (some ⟨g2, 0, none⟩) h d2]) := Lib.hid ((hb.block _ HW7.out.lt).trans HW7.out)
          clear hb k0 k1 k2
          cases v with
          | false =>
            go_wp2_with fail
            go_ret
            exact ⟨rfl, HB8.out⟩
          | true =>
            have HM1 : Hid (∀ X, Calls Tryd.prog 23 #[.string sec, .int .i64 h, .int .i64 15] X (RowPost n1 l1 X)) := Lib.hid HC.out.made
            have HM2 := Lib.hid (HC.out.checked rfl rfl)
            have HSn := Lib.hid (HC.out.shown rfl rfl)
            have Hn1 := Lib.hid HC.out.len1
            have Hn2 := Lib.hid HC.out.len2
            have hn1 : n1 ≤ 10000 := HC.out.few1
            have hn2 : n2 ≤ 10000 := HC.out.few2
            have hn20 : 0 < n2 := HC.out.pos2
            have hS0 : w8.cell? ⟨B, 0, none⟩ = some (.int .i64 i) ∧ w8.cell? ⟨B, 1, none⟩ = some (.slice (some ⟨g1, 0, none⟩) 18 d1) ∧ w8.cell? ⟨B, 2, none⟩ = some (.slice (some ⟨g2, 0, none⟩) h d2) := seal_cells (Below.refl _ _) HW8.out
            go_wp2_with fail
            go_region_held_law (fun w' => w'.cell? ⟨B, 0, none⟩ = some (.int .i64 i) ∧ w'.cell? ⟨B, 1, none⟩ = some (.slice (some ⟨g1, 0, none⟩) 18 d1) ∧ w'.cell? ⟨B, 2, none⟩ = some (.slice (some ⟨g2, 0, none⟩) h d2)) (first | exact hS4 | exact hS3 | exact hS2 | exact hS1 | exact hS0) (first
              | (have hq := HX2; refine step_append_guard _ rfl (.tmp 126) (.tmp 129) 22 rfl w8.heap.size 9 i1 (.string ⟨#[]⟩) 1 16 Tryd.underlying22 hi1 hy0 hy1 hy2 rfl (by decide) (.slice (some ⟨ga, 0, none⟩) n1 ca) n1 (strC l1) (by simp [Act.eval]) HR1.out ⟨gb, ob, none⟩ n2 cb (strC l2) (by simp [Act.eval]) HLn.out HNc.out (strC_one _) hn20 (by unfold maxLen; omega) (by omega) HX2.out.size ?_; intro g' cap' w10 hown hgrow; have HX3 := Lib.hid ((HX2.out.grown hgrow HX2.out.size (fun j e => (HR1.out.lt j e).1))); have HSt := Lib.hid (strs_of_row (l := l1 ++ l2) (by rw [strC_append]; exact hown) HLa.out); have hS3 := seal_cells HX3.out HW8.out; clear hown hgrow)
              | (have hq := HX1; go_simp; go_at_call 24; refine (HM2.out X1 (below_step HX8.out HX1.out)).mono ?_; rintro e X2 ⟨⟨gb, ob, cb, rfl, hr2⟩, hb2⟩; have HX2 : Hid (Below w8.heap.size w8 X2) := Lib.hid (below_step HX1.out hb2); have HR1 := Lib.hid (owns_grown HRa.out hb2); have HNc := Lib.hid hr2; have HLn : Hid ((strC l2).length = n2 * 1) := Lib.hid (by rw [Hn2.out]; simp [strC]); have HLa : Hid (n1 + n2 = (l1 ++ l2).length) := Lib.hid (by rw [List.length_append, Hn1.out, Hn2.out]); have hS2 := seal_cells HX2.out HW8.out; clear hr2 hb2)
              | (go_simp; go_at_call 23; refine (HM1.out _).mono ?_; rintro e X1 ⟨ga, ca, rfl, hr1, hb1⟩; have HX1 : Hid (Below w8.heap.size w8 X1) := Lib.hid ((Below.refl _ _).drew.trans hb1); have HRa : Hid (X1.ownsRow w8.heap.size 9 1 (.slice (some ⟨ga, 0, none⟩) n1 ca) n1 (strC l1)) := Lib.hid hr1; have hS1 := seal_cells HX1.out HW8.out; clear hr1 hb1)
              | (have hq := HX3; go_simp; go_at_call 22; refine (HSn.out _ _ _ HSt.out).mono ?_; rintro e X4 ⟨rfl, hb4⟩; have HX4 := Lib.hid (HB8.out.trans ((below_step HX3.out hb4).mono HB8.out.size)); have hS4 := seal_cells (below_step HX3.out hb4) HW8.out; clear hb4))
            all_goals
              go_wp2_with fail
              go_ret
              exact ⟨rfl, HX4.out⟩
      · have hk1 : ¬ (k : Int) < 18 := by omega
        have hk2 : decide ((k : Int) < 18) = false := decide_eq_false hk1
        obtain ⟨E, HE⟩ : ∃ E, Hid (E = 18 + h) := ⟨_, Lib.hid rfl⟩
        have hE : (18 + (h : Int)) = (E : Int) := by rw [HE.out]; push_cast; rfl
        have hE1 : (E : Int) ≤ 20 := by rw [HE.out]; omega
        have hE0 : (0 : Int) < E := by rw [HE.out]; omega
        obtain ⟨kB0, kB1, kB2⟩ := seal_cells (Below.refl _ _) HWB.out
        obtain ⟨kA0, kA1, kA2⟩ := HAc.out
        by_cases hkE : k < E
        · have hk3 : (k : Int) < E := by omega
          have hk4 : decide ((k : Int) < E) = true := decide_eq_true hk3
          obtain ⟨q, Hq⟩ : ∃ q, Hid (q = k - 18) := ⟨_, Lib.hid rfl⟩
          have hq : (k : Int) - 18 = (q : Int) := by rw [Hq.out]; omega
          have hqh : q < h := by rw [Hq.out]; have := HE.out; omega
          have hqh1 : (q : Int) < h := by omega
          have hqh0 : (0 : Int) ≤ q := by omega
          have nB : ¬ B = g2 := HNB.out.2
          have nA : ¬ A = g2 := HNA.out.2
          have kE : w.cell? ⟨g2, q, none⟩ = some (.string (path[q]'(by have := HL.out.1.2; omega))) := by
            rw [HBad.out.2.1.cellAt q (by omega), List.getElem?_map, List.getElem?_eq_getElem (by have := HL.out.1.2; omega)]; rfl
          have kF : w.frozen? ⟨g2, q, none⟩ = false := HBad.out.2.1.frozenAt q
          go_wp2_with fail
          obtain ⟨X, HX⟩ : ∃ x, Hid (x = w.setCell ⟨g2, q, none⟩ (.string oth)) := ⟨_, Lib.hid rfl⟩
          have hsB : Below W.heap.size w X := by rw [HX.out]; exact (Below.refl _ _).setCell (by have := HBad.out.2.1.lt; have := HB5.out.size; show _ ≤ g2; omega) _
          have hs5 : Below W5.heap.size w X := by rw [HX.out]; exact (Below.refl _ _).setCell (by have := HBad.out.2.1.lt; show _ ≤ g2; omega) _
          have HBX := Lib.hid (HB6.out.trans hsB)
          have HX5 := Lib.hid (HB56.out.trans hs5)
          have HWX : Hid (Whole X B 24 #[.int .i64 i, .slice (some ⟨g1, 0, none⟩) 18 d1, .slice (some ⟨g2, 0, none⟩) h d2]) := Lib.hid (by rw [HX.out]; exact HWB.out.far (p := ⟨g2, q, none⟩) nB _)
          obtain ⟨pathb, Hpb⟩ : ∃ l, Hid (l = putAt path q oth) := ⟨_, Lib.hid rfl⟩
          have h00 : h ≠ 0 := by omega
          have hI1 : IsStrs X (some ⟨g1, 0, none⟩) sig := by
            rw [HX.out]
            exact strs_of_row (HBad.out.1.far (p := ⟨g2, q, none⟩) (HBad.out.2.2 h00) _) HL.out.1.1.symm
          have hI2 : IsStrs X (some ⟨g2, 0, none⟩) pathb := by
            rw [HX.out, Hpb.out]
            exact strs_of_row (owns_put HBad.out.2.1 q hqh oth) (by rw [putAt_len]; exact HL.out.1.2.symm)
          have hN4 : i ≤ 4 := by omega
          obtain ⟨sm, v, l1, l2, n1, n2, hC⟩ := tail_contracts sec msg HS3.out HM.out.1 h i i hh3 HIH.out hN4 pub sig path sig pathb Hpub.out Hsig.out Hpath.out HL.out.1.1 HL.out.1.2 HL.out.1.1 (by rw [Hpb.out, putAt_len]; exact HL.out.1.2) HL.out.2.1 (by rw [Hpb.out]; exact putAt_size HL.out.2.2 HM.out.2) (Or.inl rfl) X (HT.out.below HBX.out) so po c1 c2 g1 d1 g2 d2 (HG5.out.1.below HX5.out) (HG5.out.2.below HX5.out) hI1 hI2
          rw [← HX.out]
          clear kB0 kB1 kB2 kA0 kA1 kA2 nB nA kE kF hsB hs5 hI1 hI2 hq hqh hqh1 hqh0 hE hE1 hE0 hk3 hk4
          have HC := Lib.hid hC
          clear hC
          refine (HC.out.same X (Below.refl _ _)).mono ?_
          rintro e w7 ⟨rfl, hb⟩
          have HB7 := Lib.hid (below_step HBX.out hb)
          have HX7 := Lib.hid hb
          have HW7 : Hid (Whole w7 B 24 #[.int .i64 i, .slice (some ⟨g1, 0, none⟩) 18 d1, .slice (some ⟨g2, 0, none⟩) h d2]) := Lib.hid ((hb.block _ HWX.out.lt).trans HWX.out)
          clear hb
          cases sm with
          | true =>
            go_wp2_with fail
            go_ret
            exact ⟨rfl, HB7.out⟩
          | false =>
            obtain ⟨k0, k1, k2⟩ := seal_cells (Below.refl _ _) HW7.out
            go_wp2_with fail
            refine (HC.out.verify w7 HX7.out).mono ?_
            rintro e w8 ⟨rfl, hb⟩
            have HB8 := Lib.hid (below_step HB7.out hb)
            have HX8 := Lib.hid (below_step HX7.out hb)
            have HW8 : Hid (Whole w8 B 24 #[.int .i64 i, .slice (some ⟨g1, 0, none⟩) 18 d1, .slice (some ⟨g2, 0, none⟩) h d2]) := Lib.hid ((hb.block _ HW7.out.lt).trans HW7.out)
            clear hb k0 k1 k2
            cases v with
            | false =>
              go_wp2_with fail
              go_ret
              exact ⟨rfl, HB8.out⟩
            | true =>
              have HM1 : Hid (∀ X, Calls Tryd.prog 23 #[.string sec, .int .i64 h, .int .i64 15] X (RowPost n1 l1 X)) := Lib.hid HC.out.made
              have HM2 := Lib.hid (HC.out.checked rfl rfl)
              have HSn := Lib.hid (HC.out.shown rfl rfl)
              have Hn1 := Lib.hid HC.out.len1
              have Hn2 := Lib.hid HC.out.len2
              have hn1 : n1 ≤ 10000 := HC.out.few1
              have hn2 : n2 ≤ 10000 := HC.out.few2
              have hn20 : 0 < n2 := HC.out.pos2
              have hS0 : w8.cell? ⟨B, 0, none⟩ = some (.int .i64 i) ∧ w8.cell? ⟨B, 1, none⟩ = some (.slice (some ⟨g1, 0, none⟩) 18 d1) ∧ w8.cell? ⟨B, 2, none⟩ = some (.slice (some ⟨g2, 0, none⟩) h d2) := seal_cells (Below.refl _ _) HW8.out
              go_wp2_with fail
              go_region_held_law (fun w' => w'.cell? ⟨B, 0, none⟩ = some (.int .i64 i) ∧ w'.cell? ⟨B, 1, none⟩ = some (.slice (some ⟨g1, 0, none⟩) 18 d1) ∧ w'.cell? ⟨B, 2, none⟩ = some (.slice (some ⟨g2, 0, none⟩) h d2)) (first | exact hS4 | exact hS3 | exact hS2 | exact hS1 | exact hS0) (first
                | (have hq := HX2; refine step_append_guard _ rfl (.tmp 126) (.tmp 129) 22 rfl w8.heap.size 9 i1 (.string ⟨#[]⟩) 1 16 Tryd.underlying22 hi1 hy0 hy1 hy2 rfl (by decide) (.slice (some ⟨ga, 0, none⟩) n1 ca) n1 (strC l1) (by simp [Act.eval]) HR1.out ⟨gb, ob, none⟩ n2 cb (strC l2) (by simp [Act.eval]) HLn.out HNc.out (strC_one _) hn20 (by unfold maxLen; omega) (by omega) HX2.out.size ?_; intro g' cap' w10 hown hgrow; have HX3 := Lib.hid ((HX2.out.grown hgrow HX2.out.size (fun j e => (HR1.out.lt j e).1))); have HSt := Lib.hid (strs_of_row (l := l1 ++ l2) (by rw [strC_append]; exact hown) HLa.out); have hS3 := seal_cells HX3.out HW8.out; clear hown hgrow)
                | (have hq := HX1; go_simp; go_at_call 24; refine (HM2.out X1 (below_step HX8.out HX1.out)).mono ?_; rintro e X2 ⟨⟨gb, ob, cb, rfl, hr2⟩, hb2⟩; have HX2 : Hid (Below w8.heap.size w8 X2) := Lib.hid (below_step HX1.out hb2); have HR1 := Lib.hid (owns_grown HRa.out hb2); have HNc := Lib.hid hr2; have HLn : Hid ((strC l2).length = n2 * 1) := Lib.hid (by rw [Hn2.out]; simp [strC]); have HLa : Hid (n1 + n2 = (l1 ++ l2).length) := Lib.hid (by rw [List.length_append, Hn1.out, Hn2.out]); have hS2 := seal_cells HX2.out HW8.out; clear hr2 hb2)
                | (go_simp; go_at_call 23; refine (HM1.out _).mono ?_; rintro e X1 ⟨ga, ca, rfl, hr1, hb1⟩; have HX1 : Hid (Below w8.heap.size w8 X1) := Lib.hid ((Below.refl _ _).drew.trans hb1); have HRa : Hid (X1.ownsRow w8.heap.size 9 1 (.slice (some ⟨ga, 0, none⟩) n1 ca) n1 (strC l1)) := Lib.hid hr1; have hS1 := seal_cells HX1.out HW8.out; clear hr1 hb1)
                | (have hq := HX3; go_simp; go_at_call 22; refine (HSn.out _ _ _ HSt.out).mono ?_; rintro e X4 ⟨rfl, hb4⟩; have HX4 := Lib.hid (HB8.out.trans ((below_step HX3.out hb4).mono HB8.out.size)); have hS4 := seal_cells (below_step HX3.out hb4) HW8.out; clear hb4))
              all_goals
                go_wp2_with fail
                go_ret
                exact ⟨rfl, HX4.out⟩
        · have hk3 : ¬ (k : Int) < E := by omega
          have hk4 : decide ((k : Int) < E) = false := decide_eq_false hk3
          obtain ⟨j, Hj⟩ : ∃ j, Hid (j = (i + 1) % N) := ⟨_, Lib.hid rfl⟩
          obtain ⟨i', Hi'⟩ : ∃ j, Hid (j = i + 1) := ⟨_, Lib.hid rfl⟩
          have hi' : ((i : Int) + 1) = (i' : Int) := by rw [Hi'.out]; push_cast; rfl
          have hi'1 : (i' : Int) ≤ 4 := by rw [Hi'.out]; omega
          have hi'0 : (0 : Int) < i' := by rw [Hi'.out]; omega
          have hj : ((i' : Int) % (N : Int)) = (j : Int) := by rw [Hj.out, Hi'.out]; push_cast; rfl
          have hjN : j < N := by rw [Hj.out]; exact Nat.mod_lt _ hN0
          have hN0' : (0 : Int) < N := by omega
          have fB0 : w.frozen? ⟨B, 0, none⟩ = false := HWB.out.frozen 0
          have nAB : ¬ A = B := by have := HAB.out; omega
          go_wp2_with fail
          refine wp_region_quiet_tail 7 (by kernel_rfl) (by kernel_rfl) ?_
          simp only [List.take_succ_cons, List.take_zero, List.drop_succ_cons, List.drop_zero]
          repeat (go_big_quiet_step (fail))
          refine wpQuiet_nil ?_
          go_wp2_with fail
          obtain ⟨X, HX⟩ : ∃ x, Hid (x = (w.setCell ⟨B, 0, none⟩ (.int .i64 j)).drew) := ⟨_, Lib.hid rfl⟩
          have hB5 : W5.heap.size ≤ B := HB05.out
          have hsB : Below W.heap.size w X := by rw [HX.out]; exact ((Below.refl _ _).setCell (by have := HB5.out.size; show _ ≤ B; omega) _).drew
          have hs5 : Below W5.heap.size w X := by rw [HX.out]; exact ((Below.refl _ _).setCell (by show _ ≤ B; omega) _).drew
          have HBX := Lib.hid (HB6.out.trans hsB)
          have HX5 := Lib.hid (HB56.out.trans hs5)
          have HWX : Hid (Whole X B 24 #[.int .i64 j, .slice (some ⟨g1, 0, none⟩) 18 d1, .slice (some ⟨g2, 0, none⟩) h d2]) := Lib.hid (by rw [HX.out]; exact (HWB.out.set 0 _).drew)
          have hI1 : IsStrs X (some ⟨g1, 0, none⟩) sig := by
            rw [HX.out]
            exact (strs_of_row (HBad.out.1.far (p := ⟨B, 0, none⟩) (fun hx => HNB.out.1 hx.symm) _) HL.out.1.1.symm).below (Below.refl _ _).drew
          have hI2 : IsStrs X (some ⟨g2, 0, none⟩) path := by
            rw [HX.out]
            exact (strs_of_row (HBad.out.2.1.far (p := ⟨B, 0, none⟩) (fun hx => HNB.out.2 hx.symm) _) HL.out.1.2.symm).below (Below.refl _ _).drew
          have hN4 : j ≤ 4 := by omega
          obtain ⟨sm, v, l1, l2, n1, n2, hC⟩ := tail_contracts sec msg HS3.out HM.out.1 h i j hh3 HIH.out hN4 pub sig path sig path Hpub.out Hsig.out Hpath.out HL.out.1.1 HL.out.1.2 HL.out.1.1 HL.out.1.2 HL.out.2.1 HL.out.2.2 (Or.inr rfl) X (HT.out.below HBX.out) so po c1 c2 g1 d1 g2 d2 (HG5.out.1.below HX5.out) (HG5.out.2.below HX5.out) hI1 hI2
          rw [← HX.out]
          clear kB0 kB1 kB2 kA0 kA1 kA2 fB0 nAB hsB hs5 hI1 hI2 hE hE1 hE0 hk3 hk4 hi' hi'1 hi'0 hj
          have HC := Lib.hid hC
          clear hC
          refine (HC.out.same X (Below.refl _ _)).mono ?_
          rintro e w7 ⟨rfl, hb⟩
          have HB7 := Lib.hid (below_step HBX.out hb)
          have HX7 := Lib.hid hb
          have HW7 : Hid (Whole w7 B 24 #[.int .i64 j, .slice (some ⟨g1, 0, none⟩) 18 d1, .slice (some ⟨g2, 0, none⟩) h d2]) := Lib.hid ((hb.block _ HWX.out.lt).trans HWX.out)
          clear hb
          cases sm with
          | true =>
            go_wp2_with fail
            go_ret
            exact ⟨rfl, HB7.out⟩
          | false =>
            obtain ⟨k0, k1, k2⟩ := seal_cells (Below.refl _ _) HW7.out
            go_wp2_with fail
            refine (HC.out.verify w7 HX7.out).mono ?_
            rintro e w8 ⟨rfl, hb⟩
            have HB8 := Lib.hid (below_step HB7.out hb)
            have HX8 := Lib.hid (below_step HX7.out hb)
            have HW8 : Hid (Whole w8 B 24 #[.int .i64 j, .slice (some ⟨g1, 0, none⟩) 18 d1, .slice (some ⟨g2, 0, none⟩) h d2]) := Lib.hid ((hb.block _ HW7.out.lt).trans HW7.out)
            clear hb k0 k1 k2
            cases v with
            | false =>
              go_wp2_with fail
              go_ret
              exact ⟨rfl, HB8.out⟩
            | true =>
              have HM1 : Hid (∀ X, Calls Tryd.prog 23 #[.string sec, .int .i64 h, .int .i64 15] X (RowPost n1 l1 X)) := Lib.hid HC.out.made
              have HM2 := Lib.hid (HC.out.checked rfl rfl)
              have HSn := Lib.hid (HC.out.shown rfl rfl)
              have Hn1 := Lib.hid HC.out.len1
              have Hn2 := Lib.hid HC.out.len2
              have hn1 : n1 ≤ 10000 := HC.out.few1
              have hn2 : n2 ≤ 10000 := HC.out.few2
              have hn20 : 0 < n2 := HC.out.pos2
              have hS0 : w8.cell? ⟨B, 0, none⟩ = some (.int .i64 j) ∧ w8.cell? ⟨B, 1, none⟩ = some (.slice (some ⟨g1, 0, none⟩) 18 d1) ∧ w8.cell? ⟨B, 2, none⟩ = some (.slice (some ⟨g2, 0, none⟩) h d2) := seal_cells (Below.refl _ _) HW8.out
              go_wp2_with fail
              go_region_held_law (fun w' => w'.cell? ⟨B, 0, none⟩ = some (.int .i64 j) ∧ w'.cell? ⟨B, 1, none⟩ = some (.slice (some ⟨g1, 0, none⟩) 18 d1) ∧ w'.cell? ⟨B, 2, none⟩ = some (.slice (some ⟨g2, 0, none⟩) h d2)) (first | exact hS4 | exact hS3 | exact hS2 | exact hS1 | exact hS0) (first
                | (have hq := HX2; refine step_append_guard _ rfl (.tmp 126) (.tmp 129) 22 rfl w8.heap.size 9 i1 (.string ⟨#[]⟩) 1 16 Tryd.underlying22 hi1 hy0 hy1 hy2 rfl (by decide) (.slice (some ⟨ga, 0, none⟩) n1 ca) n1 (strC l1) (by simp [Act.eval]) HR1.out ⟨gb, ob, none⟩ n2 cb (strC l2) (by simp [Act.eval]) HLn.out HNc.out (strC_one _) hn20 (by unfold maxLen; omega) (by omega) HX2.out.size ?_; intro g' cap' w10 hown hgrow; have HX3 := Lib.hid ((HX2.out.grown hgrow HX2.out.size (fun j e => (HR1.out.lt j e).1))); have HSt := Lib.hid (strs_of_row (l := l1 ++ l2) (by rw [strC_append]; exact hown) HLa.out); have hS3 := seal_cells HX3.out HW8.out; clear hown hgrow)
                | (have hq := HX1; go_simp; go_at_call 24; refine (HM2.out X1 (below_step HX8.out HX1.out)).mono ?_; rintro e X2 ⟨⟨gb, ob, cb, rfl, hr2⟩, hb2⟩; have HX2 : Hid (Below w8.heap.size w8 X2) := Lib.hid (below_step HX1.out hb2); have HR1 := Lib.hid (owns_grown HRa.out hb2); have HNc := Lib.hid hr2; have HLn : Hid ((strC l2).length = n2 * 1) := Lib.hid (by rw [Hn2.out]; simp [strC]); have HLa : Hid (n1 + n2 = (l1 ++ l2).length) := Lib.hid (by rw [List.length_append, Hn1.out, Hn2.out]); have hS2 := seal_cells HX2.out HW8.out; clear hr2 hb2)
                | (go_simp; go_at_call 23; refine (HM1.out _).mono ?_; rintro e X1 ⟨ga, ca, rfl, hr1, hb1⟩; have HX1 : Hid (Below w8.heap.size w8 X1) := Lib.hid ((Below.refl _ _).drew.trans hb1); have HRa : Hid (X1.ownsRow w8.heap.size 9 1 (.slice (some ⟨ga, 0, none⟩) n1 ca) n1 (strC l1)) := Lib.hid hr1; have hS1 := seal_cells HX1.out HW8.out; clear hr1 hb1)
                | (have hq := HX3; go_simp; go_at_call 22; refine (HSn.out _ _ _ HSt.out).mono ?_; rintro e X4 ⟨rfl, hb4⟩; have HX4 := Lib.hid (HB8.out.trans ((below_step HX3.out hb4).mono HB8.out.size)); have hS4 := seal_cells (below_step HX3.out hb4) HW8.out; clear hb4))
              all_goals
                go_wp2_with fail
                go_ret
                exact ⟨rfl, HX4.out⟩

end Go.Proofs.YtfnbdjjobndgfaaDoor
