/- slices.IndexFunc and ContainsFunc of lists of indices over link.Of's closure. -/
import Derived.Test.YtolnpimnoajcaaaLnkOf1
import Derived.Test.YtolnpimnoajcaaaLnkInts
namespace Go.Proofs.Ytolnpimnoajcaaa
open Go.RowKit
open Evt Lnk

/-- What IndexFunc answers. -/
def IxPost (g : List Nat) (q : Nat → Bool) (W : World) (e : Ending) (w' : World) : Prop := ∃ z : Int, e = .returned (.int .i64 z) ∧ decide (0 ≤ z) = g.any q ∧ Below W.heap.size W w'
set_option maxRecDepth 100000 in
set_option maxHeartbeats 4000000 in
theorem indexF_any (g : List Nat) (hl : g.length ≤ 1000000) (bl bp : Nat) (q : Nat → Bool) (W : World) (v : Value) (hg : IsN W v g)
    (hq : ∀ x ∈ g, ∀ w, Below W.heap.size W w → Calls Try.prog 31 #[.int .i64 (x : Nat), .pointer (some ⟨bl, 0, none⟩), .pointer (some ⟨bp, 0, none⟩)] w fun e w' => e = .returned (.bool (q x)) ∧ Below w.heap.size w w') :
    Calls Try.prog 44 #[v, .func (.func 31) #[] #[.pointer (some ⟨bl, 0, none⟩), .pointer (some ⟨bp, 0, none⟩)]] W (IxPost g q W) := by
  obtain ⟨ao, c, rfl, h⟩ := hg
  have HG := Lib.hid h
  have HQ := Lib.hid hq
  clear h hq
  obtain ⟨n, Hn⟩ : ∃ n, Hid (n = g.length) := ⟨_, Lib.hid rfl⟩
  rw [← Hn.out] at hl ⊢
  have hyes : Hid (∀ (k : Nat) (w' : World), (∃ x ∈ g, q x = true) → Below W.heap.size W w' → IxPost g q W (.returned (.int .i64 k)) w') := Lib.hid (fun k w' ⟨x, h1, h2⟩ hb => ⟨k, rfl, by rw [List.any_eq_true.2 ⟨x, h1, h2⟩]; exact decide_eq_true (by omega), hb⟩)
  have hno : Hid (∀ (w' : World), (∀ x ∈ g, q x = false) → Below W.heap.size W w' → IxPost g q W (.returned (.int .i64 (-1))) w') := Lib.hid (fun w' h hb => ⟨-1, rfl, by rw [List.any_eq_false.2 (fun x hx => by rw [h x hx]; simp)]; rfl, hb⟩)
  go_enter Try.func44, Try.ntmps44
  go_wp2_with fail
  go_loopw [8] (fun i wr => ∃ k : Nat, k ≤ n ∧ i = .int .i64 k ∧ Hid (Below W.heap.size W wr ∧ ∀ x ∈ g.take k, q x = false)) (fun i _ => n - (intOf i).toNat)
  case atStart => exact ⟨0, Nat.zero_le _, by go_num, Lib.hid ⟨Below.refl _ _, by simp⟩⟩
  case round =>
    obtain ⟨k, hk, rfl, HR⟩ := hrel
    by_cases hkn : k < n
    · have hd : decide ((k : Int) < n) = true := decide_eq_true (by omega)
      have hb0 : (0 : Int) ≤ k := by omega
      have hb1 : (k : Int) < n := by omega
      have hkl : k < g.length := by rw [← Hn.out]; exact hkn
      obtain ⟨b, rfl, hb, cc⟩ := HG.out k hkl
      obtain ⟨x, Hx⟩ : ∃ x, Hid (x = g[k]) := ⟨_, Lib.hid rfl⟩
      rw [← Hx.out] at cc
      have cc := (cellB HR.out.1 hb).trans cc
      have HxM : Hid (x ∈ g) := Lib.hid (by rw [Hx.out]; exact List.getElem_mem hkl)
      have HC := Lib.hid (HQ.out x HxM.out wr HR.out.1)
      obtain ⟨y, Hy⟩ : ∃ y, Hid (y = q x) := ⟨_, Lib.hid rfl⟩
      rw [← Hy.out] at HC
      go_wp2_with fail
      refine HC.out.mono ?_
      rintro e w1 ⟨rfl, hb1⟩
      have HB1 := Lib.hid (below_step HR.out.1 hb1)
      clear hb1 cc
      cases y with
      | true =>
        go_wp2_with fail
        go_ret
        exact hyes.out k w1 ⟨x, HxM.out, Hy.out.symm⟩ HB1.out
      | false =>
        have HNx : Hid (∀ z ∈ g.take (k + 1), q z = false) := Lib.hid (fun z hz => by
          rw [← List.take_append_getElem hkl, List.mem_append, List.mem_singleton] at hz
          rcases hz with hz | hz
          · exact HR.out.2 z hz
          · rw [hz, ← Hx.out]; exact Hy.out.symm)
        go_wp2_with fail
        go_round
        case rel => exact ⟨k + 1, by omega, by go_num, Lib.hid ⟨HB1.out, HNx.out⟩⟩
        case measure => simp [intOf]; omega
    · obtain rfl : k = n := by omega
      have hd : decide ((k : Int) < k) = false := decide_eq_false (by omega)
      have HNo : Hid (∀ x ∈ g, q x = false) := Lib.hid (by have := HR.out.2; rwa [Hn.out, List.take_length] at this)
      go_wp2_with fail
      go_ret
      exact hno.out wr HNo.out HR.out.1

set_option maxRecDepth 100000 in
set_option maxHeartbeats 4000000 in
theorem containsF_any (g : List Nat) (hl : g.length ≤ 1000000) (bl bp : Nat) (q : Nat → Bool) (W : World) (v : Value) (hg : IsN W v g)
    (hq : ∀ x ∈ g, ∀ w, Below W.heap.size W w → Calls Try.prog 31 #[.int .i64 (x : Nat), .pointer (some ⟨bl, 0, none⟩), .pointer (some ⟨bp, 0, none⟩)] w fun e w' => e = .returned (.bool (q x)) ∧ Below w.heap.size w w') :
    Calls Try.prog 33 #[v, .func (.func 31) #[] #[.pointer (some ⟨bl, 0, none⟩), .pointer (some ⟨bp, 0, none⟩)]] W fun e w' => e = .returned (.bool (g.any q)) ∧ Below W.heap.size W w' := by
  have HC := Lib.hid (indexF_any g hl bl bp q W v hg hq)
  obtain ⟨ao, c, rfl, h⟩ := hg
  clear h hq
  obtain ⟨n, Hn⟩ : ∃ n, Hid (n = g.length) := ⟨_, Lib.hid rfl⟩
  rw [← Hn.out] at HC ⊢
  obtain ⟨y, Hy⟩ : ∃ y, Hid (y = g.any q) := ⟨_, Lib.hid rfl⟩
  rw [← Hy.out]
  go_enter Try.func33, Try.ntmps33
  go_wp2_with fail
  refine HC.out.mono ?_
  rintro e w1 ⟨z, rfl, hz, hb⟩
  have HB := Lib.hid hb
  rw [← Hy.out] at hz
  have hz2 : decide (z ≥ 0) = y := hz
  clear hb
  go_wp2_with fail
  go_ret
  exact ⟨rfl, HB.out⟩
end Go.Proofs.Ytolnpimnoajcaaa
