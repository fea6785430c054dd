/- The walks: whether something is right for all indices; the functions that are asked. -/
import Derived.Test.YtejgbfaampllaaaTskIs
namespace Go.Proofs.Ytejgbfaampllaaa
open Go.RowKit

theorem ask_order (x : Nat) (b g n cap : Nat) (s : Int) (W : World) (hb : W.cell? ⟨b, 0, none⟩ = some (.slice (some ⟨g, 0, none⟩) n cap)) (hx : x < n) (hs : W.cell? ⟨g, x, none⟩ = some (.int .i64 s)) :
    Calls Try.prog 26 #[.int .i64 (x : Int), .pointer (some ⟨b, 0, none⟩)] W fun e w' => e = .returned (.bool (s == 1)) ∧ W = w' := by
  have hx' : (x : Int) < n := by omega
  go_enter Try.func26, Try.ntmps26
  go_wp2
  go_ret
  exact ⟨rfl, rfl⟩
theorem ask_ready (x : Nat) (b g off n cap : Nat) (s : Bool) (W : World) (hb : W.cell? ⟨b, 0, none⟩ = some (.slice (some ⟨g, off, none⟩) n cap)) (hx : x < n) (hs : W.cell? ⟨g, off + x, none⟩ = some (.bool s)) :
    Calls Try.prog 31 #[.int .i64 (x : Int), .pointer (some ⟨b, 0, none⟩)] W fun e w' => e = .returned (.bool s) ∧ W = w' := by
  have hx' : (x : Int) < n := by omega
  go_enter Try.func31, Try.ntmps31
  go_wp2
  go_ret
  exact ⟨rfl, rfl⟩
theorem ask_undo1 (x : Nat) (b g off n cap : Nat) (s : Bool) (W : World) (hb : W.cell? ⟨b, 0, none⟩ = some (.slice (some ⟨g, off, none⟩) n cap)) (hx : x < n) (hs : W.cell? ⟨g, off + x, none⟩ = some (.bool s)) :
    Calls Try.prog 28 #[.int .i64 (x : Int), .pointer (some ⟨b, 0, none⟩)] W fun e w' => e = .returned (.bool s) ∧ W = w' := by
  have hx' : (x : Int) < n := by omega
  go_enter Try.func28, Try.ntmps28
  go_wp2
  go_ret
  exact ⟨rfl, rfl⟩
theorem ask_undo2 (x : Nat) (b g n cap : Nat) (s : Bool) (W : World) (hb : W.cell? ⟨b, 0, none⟩ = some (.slice (some ⟨g, 0, none⟩) n cap)) (hx : x < n) (hs : W.cell? ⟨g, x, none⟩ = some (.bool s)) :
    Calls Try.prog 29 #[.int .i64 (x : Int), .pointer (some ⟨b, 0, none⟩)] W fun e w' => e = .returned (.bool s) ∧ W = w' := by
  have hx' : (x : Int) < n := by omega
  go_enter Try.func29, Try.ntmps29
  go_wp2
  go_ret
  exact ⟨rfl, rfl⟩

set_option maxHeartbeats 1000000 in
theorem all_any (fid : FuncId) (c : Addr) (henter : ∀ x w, (callFunc fid #[.int .i64 x, .pointer (some c)]).run Try.prog w = .ok (.enter fid #[.int .i64 x, .pointer (some c)]) w)
    (af : List Int) (hn : af.length ≤ 9223372036854775807) (ao : Option Addr) (cap : Nat) (p : Int → Bool) (W : World) (hi : IsInts W ao af)
    (hcall : ∀ x ∈ af, Calls Try.prog fid #[.int .i64 x, .pointer (some c)] W fun e w' => e = .returned (.bool (p x)) ∧ W = w') :
    Calls Try.prog 25 #[.slice ao af.length cap, .func (.func fid) #[] #[.pointer (some c)]] W fun e w' => e = .returned (.bool (af.all p)) ∧ W = w' := by
  obtain ⟨m, Hm⟩ : ∃ m, Hid (m = af.length) := ⟨_, Lib.hid rfl⟩
  obtain ⟨r, Hr⟩ : ∃ r, Hid (r = af.all p) := ⟨_, Lib.hid rfl⟩
  rw [← Hm.out] at hn ⊢
  rw [← Hr.out]
  have HI := Lib.hid hi
  have HC := Lib.hid hcall
  clear hi hcall
  go_enter Try.func25, Try.ntmps25
  go_wp2
  go_loop [9] (fun i => ∃ k : Nat, k ≤ m ∧ i = .int .i64 k ∧ Hid (∀ q, (hq : q < af.length) → q < k → p af[q] = true)) (fun i => m - (intOf i).toNat)
  case atStart => exact ⟨0, by omega, rfl, Lib.hid fun q _ h => by omega⟩
  case round =>
    obtain ⟨k, hk, rfl, HA⟩ := hrel
    by_cases hlt : k < m
    · have hlt' : (k : Int) < m := by omega
      have hka : k < af.length := by rw [← Hm.out]; exact hlt
      obtain ⟨b2, o2, rfl, hb2, d1⟩ := HI.out.at hka
      have HC1 := Lib.hid (HC.out _ (List.getElem_mem hka))
      obtain ⟨x, Hx⟩ : ∃ x, Hid (x = af[k]) := ⟨_, Lib.hid rfl⟩
      rw [← Hx.out] at d1 HC1
      cases hp : p x
      · have HE : Hid (r = false) := Lib.hid (by
          rw [Hr.out]
          refine List.all_eq_false.2 ⟨x, by rw [Hx.out]; exact List.getElem_mem hka, by rw [hp]; simp⟩)
        rw [hp] at HC1
        clear hp
        go_wp2_with fail
        refine HC1.out.mono ?_
        rintro e _ ⟨rfl, rfl⟩
        go_wp2
        go_ret
        exact ⟨ret_bool HE.out.symm, rfl⟩
      · have HE : Hid (p af[k] = true) := Lib.hid (by rw [← Hx.out]; exact hp)
        rw [hp] at HC1
        clear hp
        go_wp2_with fail
        refine HC1.out.mono ?_
        rintro e _ ⟨rfl, rfl⟩
        go_wp2
        go_round
        case rel => exact ⟨k + 1, by omega, by go_num, Lib.hid fun q h1 h2 => by
          by_cases e : q = k
          · subst e; exact HE.out
          · exact HA.out q h1 (by omega)⟩
        case measure => simp [intOf]; omega
    · have HE : Hid (r = true) := Lib.hid (by
        rw [Hr.out]
        refine List.all_eq_true.2 fun x hx => ?_
        obtain ⟨q, hq, rfl⟩ := List.getElem_of_mem hx
        exact HA.out q hq (by have := Hm.out; omega))
      obtain rfl : m = k := by omega
      go_wp2
      go_ret
      exact ⟨ret_bool HE.out.symm, rfl⟩

end Go.Proofs.Ytejgbfaampllaaa
