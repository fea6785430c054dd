/- The example's catalog and state. -/
import Derived.Test.YtapjnbofhdljfaaConFew27
import Derived.Test.YtapjnbofhdljfaaConExempt
namespace Go.Proofs.Ytapjnbofhdljfaa
open Go.RowKit
open Cat

/-! ### A block that holds no strings is written -/
def NoStr (W : World) (N : Nat) : Prop := ∀ i s, W.cell? ⟨N, i, none⟩ ≠ some (.string s)
theorem noStr_slice {W : World} {N : Nat} {t : TypeId} {a : Option Addr} {n c : Nat} (h : Whole W N t #[.slice a n c]) : NoStr W N := fun i s e => by
  rw [h.cell] at e
  match i, e with
  | 0, e => cases e
  | i + 1, e => simp at e
/-- A world in which what was there is the same but for these blocks, which hold no strings. -/
structure Same (Out : Nat → Prop) (W W' : World) : Prop where
  size : W.heap.size ≤ W'.heap.size
  noStr : ∀ b, Out b → NoStr W b
  block : ∀ b, b < W.heap.size → ¬ Out b → W'.heap[b]? = W.heap[b]?
section
variable {Out : Nat → Prop} {W W' : World} {ao : Option Addr}
theorem Same.cell {b o : Nat} {v : Value} (hS : Same Out W W') (h : W.cell? ⟨b, o, none⟩ = some v) (hne : ¬ Out b) : W'.cell? ⟨b, o, none⟩ = some v := by
  rw [World.cell?_of_block (hS.block b (lt_of_cell h) hne)]; exact h
theorem IsStrs.same {ss : List ByteArray} (h : IsStrs W ao ss) (hS : Same Out W W') : IsStrs W' ao ss := by
  rcases h with h | ⟨bk, off, h1, h2, h3⟩
  · exact Or.inl h
  · refine Or.inr ⟨bk, off, h1, Nat.lt_of_lt_of_le h2 hS.size, fun k hk => ?_⟩
    exact hS.cell (h3 k hk) (fun e => hS.noStr bk e (off + k) ss[k] (h3 k hk))
theorem IsL.same {α : Type} {size : Nat} {El : World → List Value → α → Prop} {l : List α} (h : IsL size El W ao l) (hS : Same Out W W') (hf : ∀ W cs a, El W cs a → ∃ s, cs[0]? = some (.string s)) (hk : ∀ cs a, El W cs a → El W' cs a) : IsL size El W' ao l := by
  rcases h with h | ⟨bk, off, h1, h2, h3⟩
  · exact Or.inl h
  · refine Or.inr ⟨bk, off, h1, Nat.lt_of_lt_of_le h2 hS.size, fun k hkl => ?_⟩
    obtain ⟨cs, h4, h5⟩ := h3 k hkl
    obtain ⟨s, hs⟩ := hf _ _ _ h5
    have hne : ¬ Out bk := fun e => hS.noStr bk e _ s (h4 0 _ hs)
    exact ⟨cs, fun j v hv => hS.cell (h4 j v hv) hne, hk _ _ h5⟩
theorem kinds_same {l : List Knd} (h : IsL 3 ElKnd W ao l) (hS : Same Out W W') : IsL 3 ElKnd W' ao l :=
  h.same hS (fun _ _ k ⟨_, _, e, _⟩ => ⟨k.name, by rw [e]; rfl⟩) fun _ _ ⟨so, sc, e, hs, h9⟩ => ⟨so, sc, e, hs.same hS (fun _ _ k ⟨_, _, e, _⟩ => ⟨k.name, by rw [e]; rfl⟩) (fun _ _ ⟨ko, kc, e, hk, h1⟩ => ⟨ko, kc, e, hk.same hS, h1⟩), h9⟩
end

def sMotor : ByteArray := ⟨#[109, 111, 116, 111, 114]⟩
def sDiesel : ByteArray := ⟨#[100, 105, 101, 115, 101, 108]⟩
def sCoach : ByteArray := ⟨#[99, 111, 97, 99, 104]⟩
def sA : ByteArray := ⟨#[97]⟩
def sB : ByteArray := ⟨#[98]⟩
def sM1 : ByteArray := ⟨#[109, 49]⟩
def sM2 : ByteArray := ⟨#[109, 50]⟩
def sV1 : ByteArray := ⟨#[118, 49]⟩
def sR : ByteArray := ⟨#[114]⟩
set_option maxRecDepth 100000 in
set_option maxHeartbeats 4000000 in
theorem exm1_any (nm : ByteArray) (W : World) :
    Calls Try.prog 36 #[.string nm] W fun e w' => ∃ g, e = .returned (.agg #[.string nm, .slice (some ⟨g, 0, none⟩) 2 2, .int .i64 1]) ∧ IsStrs w' (some ⟨g, 0, none⟩) [sMotor, sDiesel] ∧ Below W.heap.size W w' := by
  go_enter Try.func36, Try.ntmps36
  go_wp2_with fail
  have hw : Whole ((W.alloc (.cells #[.string nm, .slice (some ⟨W.heap.size + 1, 0, none⟩) 2 2, .int .i64 1] 74)).alloc (.cells #[.string sMotor, .string sDiesel] 9)) W.heap.size 74 [.string nm, .slice (some ⟨W.heap.size + 1, 0, none⟩) 2 2, .int .i64 1].toArray := whole_belowM (Whole.new _ _ _) ((Below.refl _ _).alloc (Nat.le_refl _) _)
  refine bodyPost_ret (results_one rfl Try.underlying74 rfl _ _ W.heap.size _ (by kernel_rfl) hw rfl) rfl ⟨W.heap.size + 1, rfl, ?_, below_alloc ((Below.refl _ _).alloc (Nat.le_refl _) _) _⟩
  have hs : Whole ((W.alloc (.cells #[.string nm, .slice (some ⟨W.heap.size + 1, 0, none⟩) 2 2, .int .i64 1] 74)).alloc (.cells #[.string sMotor, .string sDiesel] 9)) (W.heap.size + 1) 9 #[.string sMotor, .string sDiesel] := Whole.newAt _ _ (by rw [size_alloc])
  refine Or.inr ⟨_, 0, rfl, hs.lt, fun k hk => ?_⟩
  have hk2 : k < 2 := by simpa using hk
  have : k = 0 ∨ k = 1 := by omega
  rcases this with rfl | rfl
  · exact hs.cell 0
  · exact hs.cell 1

def exKinds : List Knd := [⟨sMotor, false, []⟩, ⟨sDiesel, false, []⟩, ⟨sCoach, true, [⟨sA, [sMotor, sDiesel], 1⟩, ⟨sB, [sMotor, sDiesel], 1⟩]⟩]
def exPart (n k i s : ByteArray) : Prt := ⟨n, k, i, s, 0, 0, false, [], 0, 0, 0, 0, 0, 0⟩
def exParts : List Prt := [exPart sM1 sDiesel sV1 sA, exPart sM2 sDiesel sV1 sB, exPart sV1 sCoach Con.empty Con.empty]
set_option maxRecDepth 100000 in
set_option maxHeartbeats 8000000 in
theorem example_any (W : World) :
    Calls Try.prog 19 #[] W fun e w' => ∃ a b, e = .returned (.tuple #[.agg #[.slice (some ⟨a, 0, none⟩) 3 3], .agg #[.slice (some ⟨b, 0, none⟩) 3 3]]) ∧ (∀ w2, w'.heap.size ≤ w2.heap.size → (∀ k, k < w'.heap.size → k ≠ b → w2.heap[k]? = w'.heap[k]?) → IsL 3 ElKnd w2 (some ⟨a, 0, none⟩) exKinds) ∧ Whole w' b 45 (exParts.flatMap fun p => ptC p (.slice none 0 0)).toArray ∧ W.heap.size ≤ b ∧ Below W.heap.size W w' := by
  have hmf : ∀ (fn : Fn) (first cap : Array Value) (w : World), (Instr.makeFunc fn first cap).run Try.prog w = .ok (.func fn first cap) w := fun _ _ _ _ => rfl
  have H1 := Lib.hid exm1_any
  go_enter Try.func19, Try.ntmps19
  go_wp2_with fail
  obtain ⟨N, HN⟩ : ∃ N, Hid (N = W.heap.size) := ⟨_, Lib.hid rfl⟩
  obtain ⟨V, HV⟩ : ∃ w, Hid (w = (W.alloc (.cells #[.slice none 0 0] 24)).alloc (.cells #[.slice none 0 0] 28)) := ⟨_, Lib.hid rfl⟩
  have HB : Hid (Below W.heap.size W V) := Lib.hid (by rw [HV.out]; exact below_alloc ((Below.refl _ _).alloc (Nat.le_refl _) _) _)
  have HA : Hid (Whole V N 24 #[.slice none 0 0]) := Lib.hid (by rw [HV.out, HN.out]; exact whole_belowM (Whole.new _ _ _) ((Below.refl _ _).alloc (Nat.le_refl _) _))
  have HZ : Hid (Whole V (N + 1) 28 #[.slice none 0 0]) := Lib.hid (by rw [HV.out]; exact Whole.newAt _ _ (by rw [size_alloc, HN.out]))
  rw [← HN.out, ← HV.out]
  refine (H1.out ⟨#[97]⟩ V).mono ?_
  rintro e w1 ⟨g1, rfl, hs1, hb⟩
  have HS1 := Lib.hid hs1
  have HB1 := Lib.hid hb
  clear hs1 hb
  go_wp2_with fail
  refine (H1.out ⟨#[98]⟩ w1).mono ?_
  rintro e w2 ⟨g2, rfl, hs2, hb⟩
  have HS1 := Lib.hid (HS1.out.below hb)
  have HS2 := Lib.hid hs2
  have HB2 := Lib.hid (below_step HB1.out hb)
  have HA2 := Lib.hid (whole_belowM HA.out HB2.out)
  have HZ2 := Lib.hid (whole_belowM HZ.out HB2.out)
  clear hs2 hb
  have a0 := HA2.out.cell 0
  have a1 := HA2.out.frozen 0
  have z0 := HZ2.out.cell 0
  have z1 := HZ2.out.frozen 0
  go_wp2_with (first
    | (with_reducible show wpList _ _ _ (Oper.mk _ (Op.store _ (.tmp 0) _) _ _ _ _ :: _) _ _; refine Hid.out ?_))
  refine Lib.hid ?_
  have HCz : Hid ((Try.prog.info? 24).map (·.size) = some 1) := Lib.hid (by kernel_rfl)
  have HTz : Hid ((Try.prog.info? 28).map (·.size) = some 1) := Lib.hid (by kernel_rfl)
  obtain ⟨M, HM⟩ : ∃ N, Hid (N = w2.heap.size) := ⟨_, Lib.hid rfl⟩
  obtain ⟨U1, HU1⟩ : ∃ w, Hid (w = w2.alloc (.cells #[.string ⟨#[97]⟩, .slice (some ⟨g1, 0, none⟩) 2 2, .int .i64 1, .string ⟨#[98]⟩, .slice (some ⟨g2, 0, none⟩) 2 2, .int .i64 1] 74)) := ⟨_, Lib.hid rfl⟩
  obtain ⟨U2, HU2⟩ : ∃ w, Hid (w = U1.alloc (.cells #[.string ⟨#[109, 111, 116, 111, 114]⟩, .bool false, .slice none 0 0, .string ⟨#[100, 105, 101, 115, 101, 108]⟩, .bool false, .slice none 0 0, .string ⟨#[99, 111, 97, 99, 104]⟩, .bool true, .slice (some ⟨M, 0, none⟩) 2 2] 78)) := ⟨_, Lib.hid rfl⟩
  obtain ⟨U3, HU3⟩ : ∃ w, Hid (w = U2.alloc (.cells #[.slice (some ⟨M + 1, 0, none⟩) 3 3] 24)) := ⟨_, Lib.hid rfl⟩
  have hu1 : U1.heap.size = M + 1 := by rw [HU1.out, size_alloc, HM.out]
  have hu2 : U2.heap.size = M + 1 + 1 := by rw [HU2.out, size_alloc, hu1]
  have HW1 : Hid (Whole U1 M 74 #[.string sA, .slice (some ⟨g1, 0, none⟩) 2 2, .int .i64 1, .string sB, .slice (some ⟨g2, 0, none⟩) 2 2, .int .i64 1]) := Lib.hid (by rw [HU1.out]; exact Whole.newAt _ _ HM.out)
  have HW2 : Hid (Whole U2 (M + 1) 78 #[.string sMotor, .bool false, .slice none 0 0, .string sDiesel, .bool false, .slice none 0 0, .string sCoach, .bool true, .slice (some ⟨M, 0, none⟩) 2 2]) := Lib.hid (by rw [HU2.out]; exact Whole.newAt _ _ hu1.symm)
  have HW3 : Hid (Whole U3 (M + 1 + 1) 24 #[.slice (some ⟨M + 1, 0, none⟩) 3 3]) := Lib.hid (by rw [HU3.out]; exact Whole.newAt _ _ hu2.symm)
  have hb1 : Below w2.heap.size w2 U1 := by rw [HU1.out]; exact (Below.refl _ _).alloc (Nat.le_refl _) _
  have hb2 : Below U1.heap.size U1 U2 := by rw [HU2.out]; exact (Below.refl _ _).alloc (Nat.le_refl _) _
  have hb3 : Below U2.heap.size U2 U3 := by rw [HU3.out]; exact (Below.refl _ _).alloc (Nat.le_refl _) _
  have HB3 := Lib.hid (below_step HB2.out (below_step (below_step hb1 hb2) hb3))
  have HK : Hid (IsL 3 ElKnd U3 (some ⟨M + 1, 0, none⟩) exKinds) := Lib.hid (by
    have k1 := HS1.out.below (below_step (below_step hb1 hb2) hb3)
    have k2 := HS2.out.below (below_step (below_step hb1 hb2) hb3)
    have w1 := whole_belowM (whole_belowM HW1.out hb2) hb3
    have w2' := whole_belowM HW2.out hb3
    have hsl : IsL 3 ElSlt U3 (some ⟨M, 0, none⟩) [⟨sA, [sMotor, sDiesel], 1⟩, ⟨sB, [sMotor, sDiesel], 1⟩] := by
      refine IsL.whole (css := [[.string sA, .slice (some ⟨g1, 0, none⟩) 2 2, .int .i64 1], [.string sB, .slice (some ⟨g2, 0, none⟩) 2 2, .int .i64 1]]) w1 rfl (by simp) fun k hk hk' => ?_
      have hk2 : k < 2 := by simpa using hk
      have : k = 0 ∨ k = 1 := by omega
      rcases this with rfl | rfl
      · exact ⟨_, _, rfl, k1, Nat.le_refl _, by decide⟩
      · exact ⟨_, _, rfl, k2, Nat.le_refl _, by decide⟩
    refine IsL.whole (css := [[.string sMotor, .bool false, .slice none 0 0], [.string sDiesel, .bool false, .slice none 0 0], [.string sCoach, .bool true, .slice (some ⟨M, 0, none⟩) 2 2]]) w2' rfl (by simp) fun k hk hk' => ?_
    have hk2 : k < 3 := by simpa [exKinds] using hk
    have : k = 0 ∨ k = 1 ∨ k = 2 := by omega
    rcases this with rfl | rfl | rfl
    · exact ⟨none, 0, rfl, IsL.nil, Nat.zero_le _⟩
    · exact ⟨none, 0, rfl, IsL.nil, Nat.zero_le _⟩
    · exact ⟨_, _, rfl, hsl, show 2 ≤ 9223372036854775807 by decide⟩)
  clear hb1 hb2 hb3
  obtain ⟨U4, HU4⟩ : ∃ w, Hid (w = U3.alloc (.cells #[.string ⟨#[109, 49]⟩, .string ⟨#[100, 105, 101, 115, 101, 108]⟩, .string ⟨#[118, 49]⟩, .string ⟨#[97]⟩, .int .i64 0, .int .i64 0, .bool false, .slice none 0 0, .int .i64 0, .int .i64 0, .int .i64 0, .int .i64 0, .int .i64 0, .int .i64 0, .string ⟨#[109, 50]⟩, .string ⟨#[100, 105, 101, 115, 101, 108]⟩, .string ⟨#[118, 49]⟩, .string ⟨#[98]⟩, .int .i64 0, .int .i64 0, .bool false, .slice none 0 0, .int .i64 0, .int .i64 0, .int .i64 0, .int .i64 0, .int .i64 0, .int .i64 0, .string ⟨#[118, 49]⟩, .string ⟨#[99, 111, 97, 99, 104]⟩, .string ⟨#[]⟩, .string ⟨#[]⟩, .int .i64 0, .int .i64 0, .bool false, .slice none 0 0, .int .i64 0, .int .i64 0, .int .i64 0, .int .i64 0, .int .i64 0, .int .i64 0] 45)) := ⟨_, Lib.hid rfl⟩
  have hu3 : U3.heap.size = M + 1 + 1 + 1 := by rw [HU3.out, size_alloc, hu2]
  have HW4 : Hid (Whole U4 (M + 1 + 1 + 1) 45 (exParts.flatMap fun p => ptC p (.slice none 0 0)).toArray) := Lib.hid (by rw [HU4.out]; exact Whole.newAt _ _ hu3.symm)
  have hb4 : Below U3.heap.size U3 U4 := by rw [HU4.out]; exact (Below.refl _ _).alloc (Nat.le_refl _) _
  have HB4 := Lib.hid (below_step HB3.out hb4)
  have HK4 := Lib.hid (HK.out.below stKnd hb4)
  have HA4 := Lib.hid (whole_belowM HA.out HB4.out)
  have HZ4 := Lib.hid (whole_belowM HZ.out HB4.out)
  have hMW : W.heap.size ≤ M := by rw [HM.out]; exact Nat.le_trans HB.out.size HB2.out.size
  have hMN : N + 1 < M := by rw [HM.out]; exact Nat.lt_of_lt_of_le HZ.out.lt HB2.out.size
  clear hb4 a0 a1 z0 z1
  rw [← HM.out, ← HU1.out, ← HU2.out, ← HU3.out, ← HU4.out]
  have hcw : (#[.slice (some ⟨M + 1, 0, none⟩) 3 3] : Array Value).all (·.oneCell') = true := by simp [Value.oneCell']
  have hsw : (#[.slice (some ⟨M + 1 + 1 + 1, 0, none⟩) 3 3] : Array Value).all (·.oneCell') = true := by simp [Value.oneCell']
  refine wpList_store_whole rfl _ _ _ rfl N _ _ _ rfl rfl HA4.out HCz.out rfl hcw ?_
  intro w5 hw5 hg5 hs5
  have HZ5 := Lib.hid (whole_grownM HZ4.out hg5 (by simp))
  refine wpList_store_whole rfl _ _ _ rfl (N + 1) _ _ _ rfl rfl HZ5.out HTz.out rfl hsw ?_
  intro w6 hw6 hg6 hs6
  have HC6 := Lib.hid (whole_grownM hw5 hg6 (by simp))
  have HS6 := Lib.hid hw6
  have HP6 := Lib.hid (whole_grownM (whole_grownM HW4.out hg5 (by simp; omega)) hg6 (by simp; omega))
  have HK6 : Hid (∀ w2, w6.heap.size ≤ w2.heap.size → (∀ k, k < w6.heap.size → k ≠ M + 1 + 1 + 1 → w2.heap[k]? = w6.heap[k]?) → IsL 3 ElKnd w2 (some ⟨M + 1, 0, none⟩) exKinds) := Lib.hid (fun w2 h1 h2 => by
    have hz4 : U3.heap.size ≤ U4.heap.size := by rw [HU4.out, size_alloc]; omega
    have hA3 : NoStr U3 N := noStr_slice (whole_belowM HA.out HB3.out)
    have hZ3 : NoStr U3 (N + 1) := noStr_slice (whole_belowM HZ.out HB3.out)
    refine kinds_same (Out := fun k => k = N ∨ k = N + 1) HK.out ⟨by omega, fun k hk => by rcases hk with rfl | rfl; exact hA3; exact hZ3, fun k hk hne => ?_⟩
    have hk3 : k < M + 1 + 1 + 1 := by rw [← hu3]; exact hk
    have hk4 : k < U4.heap.size := by omega
    rw [h2 k (by omega) (by omega), hg6.block k (by omega) (fun e => hne (Or.inr (Option.some.inj e))), hg5.block k hk4 (fun e => hne (Or.inl (Option.some.inj e)))]
    exact ((by rw [HU4.out]; exact (Below.refl _ _).alloc (Nat.le_refl _) _ : Below U3.heap.size U3 U4)).block k hk)
  have HB6 : Hid (Below W.heap.size W w6) := Lib.hid (by
    have h4 : Below W.heap.size W U4 := below_step HB.out HB4.out
    have h5 := h4.grown hg5 h4.size (fun y e => by cases e; rw [HN.out]; exact Nat.le_refl _)
    exact h5.grown hg6 h5.size (fun y e => by cases e; rw [HN.out]; omega))
  clear hw5 hg5 hs5 hw6 hg6 hs6 hcw hsw
  go_wp2_with fail
  have hr : ∀ tmps : Array Value, tmps.getD 0 undef = .pointer (some ⟨N, 0, none⟩) → tmps.getD 1 undef = .pointer (some ⟨N + 1, 0, none⟩) → (results Try.f19 tmps).run Try.prog w6 = .ok (.tuple #[.agg #[.slice (some ⟨M + 1, 0, none⟩) 3 3], .agg #[.slice (some ⟨M + 1 + 1 + 1, 0, none⟩) 3 3]]) w6 := fun tmps t0 t1 => by
    have l1 := run_loadVar_mid (P := Try.prog) w6 N 0 24 [.slice (some ⟨M + 1, 0, none⟩) 3 3] _ (Whole.range HC6.out) Try.underlying24 rfl HCz.out
    have l2 := run_loadVar_mid (P := Try.prog) w6 (N + 1) 0 28 [.slice (some ⟨M + 1 + 1 + 1, 0, none⟩) 3 3] _ (Whole.range HS6.out) Try.underlying28 rfl HTz.out
    simp only [results, show Try.f19.results = #[.cell 0 24, .cell 1 28] from rfl, List.mapM_toArray, List.mapM_cons, List.mapM_nil, t0, t1]
    simp [asAddr, Sem.run_bind, l1, l2, Result.andThen]
  exact bodyPost_ret (hr _ rfl rfl) rfl ⟨M + 1, M + 1 + 1 + 1, rfl, HK6.out, HP6.out, by omega, HB6.out⟩
end Go.Proofs.Ytapjnbofhdljfaa
