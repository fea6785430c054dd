/- The walks of package migrate: limits, used lives, and scaled numbers. -/
import Derived.Test.YtbiibpjjjjedgaaIvlWalksA
import Derived.Test.YtbiibpjjjjedgaaDivAny
import Derived.Test.YtbiibpjjjjedgaaMigMath
namespace Go.Proofs.Ytbiibpjjjjedgaa
open Go.RowKit

theorem isLimit_any (n : Int) (w : World) :
    Calls Try.prog 29 #[.int .i64 n] w fun e w' => e = .returned (.bool (Mig.limB n)) ∧ w = w' := by
  by_cases h1 : 1 ≤ n
  · by_cases h2 : n ≤ 1000000000000
    all_goals
      go_enter Try.func29, Try.ntmps29
      go_wp2
      go_ret
      exact ⟨ret_bool (by first | exact (Mig.lim_iff.2 ⟨h1, h2⟩).symm | exact (Mig.lim_no (by omega)).symm), rfl⟩
  · go_enter Try.func29, Try.ntmps29
    go_wp2
    go_ret
    exact ⟨ret_bool (Mig.lim_no (by omega)).symm, rfl⟩

theorem isUsed_any (l h : Int) (w : World) :
    Calls Try.prog 28 #[.agg #[.int .i64 l, .int .i64 h]] w fun e w' => e = .returned (.bool (Mig.usedB l h)) ∧ Below w.heap.size w w' := by
  cases hv : Ivl.validB l h
  · have H := Lib.hid (show Mig.usedB l h = false by unfold Mig.usedB; rw [hv]; rfl)
    go_enter Try.func28, Try.ntmps28
    go_wp2_with fail
    refine (valid_any _ _ _).mono ?_
    rintro e w1 ⟨rfl, hb⟩
    go_wp2
    go_ret
    exact ⟨ret_bool H.out.symm, ((Below.refl _ _).alloc (Nat.le_refl _) _).trans (hb.mono (by rw [size_alloc]; omega))⟩
  · have H := Lib.hid (show Mig.usedB l h = decide (0 ≤ l) by unfold Mig.usedB; rw [hv]; rfl)
    go_enter Try.func28, Try.ntmps28
    go_wp2_with fail
    refine (valid_any _ _ _).mono ?_
    rintro e w1 ⟨rfl, hb⟩
    obtain ⟨hc, hd⟩ := bcell hb
    go_wp2
    go_ret
    exact ⟨ret_bool (by rw [H.out]), ((Below.refl _ _).alloc (Nat.le_refl _) _).trans (hb.mono (by rw [size_alloc]; omega))⟩

theorem down_any (q r : Nat) (w : World) :
    Calls Try.prog 31 #[.int .u64 q, .int .u64 r] w fun e w' => e = .returned (.int .u64 q) ∧ w = w' := by
  go_enter Try.func31, Try.ntmps31
  go_wp2
  go_ret
  exact ⟨rfl, rfl⟩
/-- The number that is added where something remains. -/
def more (r : Nat) : Nat := if r = 0 then 0 else 1
theorem up_any (q r : Nat) (hq : q ≤ 1000000000000) (w : World) :
    Calls Try.prog 32 #[.int .u64 q, .int .u64 r] w fun e w' => e = .returned (.int .u64 (q + more r : Nat)) ∧ w = w' := by
  have hw : IntKind.u64.wrap ((q : Int) + 1) = ((q + 1 : Nat) : Int) := by rw [show (q : Int) + 1 = ((q + 1 : Nat) : Int) by omega]; exact wrap_u64_nat _ (by omega)
  have hw0 : IntKind.u64.wrap (q : Int) = (q : Int) := wrap_u64_nat _ (by omega)
  by_cases h : r = 0
  · subst h
    go_enter Try.func32, Try.ntmps32
    go_wp2
    go_ret
    exact ⟨ret_int (by simp [more, hw0] <;> omega), rfl⟩
  · have h1 : (1 : Int) ≤ r := by omega
    have H := Lib.hid (show more r = 1 by unfold more; rw [if_neg h])
    clear h
    go_enter Try.func32, Try.ntmps32
    go_wp2
    all_goals
      go_ret
      exact ⟨ret_int (by rw [H.out]; first | exact hw | omega), rfl⟩
theorem enter_down (x y : Int) (w : World) : (callFunc 31 #[.int .u64 x, .int .u64 y]).run Try.prog w = .ok (.enter 31 #[.int .u64 x, .int .u64 y]) w := by kernel_rfl
theorem enter_up (x y : Int) (w : World) : (callFunc 32 #[.int .u64 x, .int .u64 y]).run Try.prog w = .ok (.enter 32 #[.int .u64 x, .int .u64 y]) w := by kernel_rfl

/-- What a scaled number is: the rounded quotient, and whether it fits; 0 where the quotient is too great before it is rounded. -/
def scaledV (g : Nat → Nat → Nat) (n d c : Nat) : Nat := if n * d / c ≤ 1000000000000 then g (n * d / c) (n * d % c) else 0
def scaledB (g : Nat → Nat → Nat) (n d c : Nat) : Bool := decide (n * d / c ≤ 1000000000000) && decide (g (n * d / c) (n * d % c) ≤ 1000000000000)

theorem quot_great {n d c hi lo : Nat} (h : hi * 18446744073709551616 + lo = n * d) (hc : 1 ≤ c) (hle : c ≤ hi) : 1000000000000 < n * d / c := by
  have h1 : 1000000000001 * c ≤ n * d := by omega
  have := (Nat.le_div_iff_mul_le (show 0 < c by omega)).2 h1
  omega
set_option maxHeartbeats 2000000 in
theorem scaled_any (F : Nat) (g : Nat → Nat → Nat) (n c d : Nat) (hn : n ≤ 1000000000000) (hc : 1 ≤ c) (hc2 : c ≤ 1000000000000) (hd : d ≤ 1000000000000) (w : World)
    (hE : ∀ x y w, (callFunc F #[.int .u64 x, .int .u64 y]).run Try.prog w = .ok (.enter F #[.int .u64 x, .int .u64 y]) w)
    (hF : ∀ (q r : Nat) w, q ≤ 1000000000000 → Calls Try.prog F #[.int .u64 q, .int .u64 r] w fun e w' => e = .returned (.int .u64 (g q r : Nat)) ∧ w = w')
    (hg : ∀ q r, g q r ≤ q + 1) :
    Calls Try.prog 30 #[.int .i64 n, .int .i64 c, .int .i64 d, .func (.func F) #[] #[]] w
      fun e w' => e = .returned (.tuple #[.int .i64 (scaledV g n d c : Nat), .bool (scaledB g n d c)]) ∧ Below w.heap.size w w' := by
  have HE := Lib.hid hE
  have HF := Lib.hid hF
  have HG := Lib.hid hg
  clear hE hF hg
  obtain ⟨hi, Hhi⟩ : ∃ x, Hid (x = n * d / 18446744073709551616) := ⟨_, Lib.hid rfl⟩
  obtain ⟨lo, Hlo⟩ : ∃ x, Hid (x = n * d % 18446744073709551616) := ⟨_, Lib.hid rfl⟩
  have hlo : lo < 18446744073709551616 := by rw [Hlo.out]; exact Nat.mod_lt _ (by decide)
  have Hnd : Hid (hi * 18446744073709551616 + lo = n * d) := Lib.hid (by rw [Hhi.out, Hlo.out, Nat.mul_comm]; exact Nat.div_add_mod _ _)
  have e1 : IntKind.u64.wrap (n : Int) = (n : Int) := wrap_u64_nat _ (by omega)
  have e2 : IntKind.u64.wrap (c : Int) = (c : Int) := wrap_u64_nat _ (by omega)
  have e3 : IntKind.u64.wrap (d : Int) = (d : Int) := wrap_u64_nat _ (by omega)
  have Hmul : Hid (∀ w, Calls Try.prog 46 #[.int .u64 n, .int .u64 d] w fun e w' => e = .returned (.tuple #[.int .u64 hi, .int .u64 lo]) ∧ w = w') := Lib.hid (fun w => by
    have := _root_.Go.Proofs.Try.bits_Mul64 n d (by omega) (by omega) w
    rw [← Hhi.out, ← Hlo.out] at this
    exact this.mono fun _ _ ⟨he, hw⟩ => ⟨he, hw.symm⟩)
  by_cases h1 : hi < c
  · obtain ⟨q, Hq⟩ : ∃ x, Hid (x = n * d / c) := ⟨_, Lib.hid rfl⟩
    obtain ⟨r, Hr⟩ : ∃ x, Hid (x = n * d % c) := ⟨_, Lib.hid rfl⟩
    have Hv := Lib.hid (show scaledV g n d c = if q ≤ 1000000000000 then g q r else 0 by unfold scaledV; rw [Hq.out, Hr.out])
    have Hb := Lib.hid (show scaledB g n d c = (decide (q ≤ 1000000000000) && decide (g q r ≤ 1000000000000)) by unfold scaledB; rw [Hq.out, Hr.out])
    have HD := Lib.hid (fun w => div64_any hi lo c h1 hlo hc2 w)
    rw [Hnd.out] at HD
    rw [← Hq.out, ← Hr.out] at HD
    have hcmp : (decide ((c : Int) ≤ (hi : Int))) = false := by simp; omega
    go_enter Try.func30, Try.ntmps30
    go_wp2_with fail
    refine (Hmul.out _).mono ?_
    rintro e w' ⟨rfl, rfl⟩
    go_wp2_with fail
    refine (HD.out _).mono ?_
    rintro e w1 ⟨rfl, hb⟩
    by_cases h2 : q ≤ 1000000000000
    · have HF' := HF.out q r w1 h2
      have hg := HG.out q r
      have HE' := HE.out q r w1
      obtain ⟨z, Hz⟩ : ∃ x, Hid (x = g q r) := ⟨_, Lib.hid rfl⟩
      rw [← Hz.out] at HF' hg
      have hz : z ≤ 1000000000001 := by omega
      have e4 : IntKind.i64.wrap (z : Int) = (z : Int) := by rw [IntKind.wrap_i64]; omega
      go_wp2_with fail
      refine HF'.mono ?_
      rintro e w2 ⟨rfl, rfl⟩
      clear HF' HE'
      go_wp2
      go_ret2
      exact ⟨by rw [Hv.out, Hb.out, if_pos h2, ← Hz.out]; congr 1; simp [h2]; try omega, hb⟩
    · have h2' : ¬ (q : Int) ≤ 1000000000000 := by omega
      go_wp2
      go_ret2
      exact ⟨by rw [Hv.out, Hb.out, if_neg h2]; simp [h2], hb⟩
  · have hq : Hid (1000000000000 < n * d / c) := Lib.hid (quot_great Hnd.out hc (by omega))
    have Hv := Lib.hid (show scaledV g n d c = 0 by unfold scaledV; rw [if_neg (by have := hq.out; omega)])
    have Hb := Lib.hid (show scaledB g n d c = false by unfold scaledB; simp; intro h; have := hq.out; omega)
    have hcmp : (c : Int) ≤ (hi : Int) := by omega
    go_enter Try.func30, Try.ntmps30
    go_wp2_with fail
    refine (Hmul.out _).mono ?_
    rintro e w' ⟨rfl, rfl⟩
    go_wp2
    go_ret2
    exact ⟨by rw [Hv.out, Hb.out]; rfl, Below.refl _ _⟩

end Go.Proofs.Ytbiibpjjjjedgaa
