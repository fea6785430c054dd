/- link.Doubts. -/
import Derived.Test.YtolnpimnoajcaaaLnkColl
import Derived.Test.YtolnpimnoajcaaaRepValid
namespace Go.Proofs.Ytolnpimnoajcaaa
open Go.RowKit
open Evt Lnk

namespace Lnk
noncomputable def dbt (r : Rp) : Bool := decide (choices r > 1)
noncomputable def doubts (l : List Rp) : Nat := l.countP dbt
end Lnk
set_option maxRecDepth 100000 in
set_option maxHeartbeats 8000000 in
theorem doubts_any (ao : Option Addr) (l : List Rp) (cap : Nat) (hl : l.length ≤ 1000000) (W : World) (hi : IsL 2 ElRp W ao l) :
    Calls Try.prog 18 #[.slice ao l.length cap] W fun e w' => e = .returned (.int .i64 (doubts l : Nat)) ∧ Below W.heap.size W w' := by
  have HI := Lib.hid hi
  have Hch := Lib.hid (fun (r : Rp) (oo : Option Addr) (oc : Nat) (h1 : r.opts.length ≤ oc) (h2 : oc ≤ 9223372036854775807) (w : World) (h3 : IsL 14 ElEv w oo r.opts) => choices_any r oo oc h1 h2 w h3)
  clear hi
  obtain ⟨n, Hn⟩ : ∃ n, Hid (n = l.length) := ⟨_, Lib.hid rfl⟩
  obtain ⟨D, HD⟩ : ∃ n, Hid (n = doubts l) := ⟨_, Lib.hid rfl⟩
  rw [← Hn.out, ← HD.out]
  rw [← Hn.out] at hl
  go_enter Try.func18, Try.ntmps18
  go_wp2_with fail
  go_loopw [3, 8] (fun a i wr => ∃ k c : Nat, k ≤ n ∧ c ≤ k ∧ a = .int .i64 c ∧ i = .int .i64 k ∧ Hid (Below W.heap.size W wr ∧ c = doubts (l.take k))) (fun _ i _ => n - (intOf i).toNat)
  case atStart => exact ⟨0, 0, Nat.zero_le _, Nat.le_refl _, by go_num, by go_num, Lib.hid ⟨Below.refl _ _, rfl⟩⟩
  case round =>
    obtain ⟨k, c, hk, hck, rfl, rfl, HR⟩ := hrel
    by_cases hkn : k < n
    · have hd : decide ((k : Int) < n) = true := decide_eq_true (by omega)
      have hb0 : (0 : Int) ≤ k := by omega
      have hb1 : (k : Int) < n := by omega
      have hkl : k < l.length := by rw [← Hn.out]; exact hkn
      obtain ⟨bk, off, cs, rfl, hbk, hrg, oo, oc, rfl, hel, hoc1, hoc2⟩ := HI.out.at hkl
      obtain ⟨y, Hy⟩ : ∃ m, Hid (m = l[k]) := ⟨_, Lib.hid rfl⟩
      rw [← Hy.out] at hrg hel hoc1
      have HNx : Hid (doubts (l.take (k + 1)) = c + if dbt y then 1 else 0) := Lib.hid (by
        rw [HR.out.2, Hy.out]
        unfold doubts
        rw [← List.take_append_getElem hkl, List.countP_append, List.countP_singleton])
      have hrg := rangeB hrg hbk HR.out.1
      have c0 := hrg 0 _ rfl
      have c1 := hrg 1 _ rfl
      rw [Nat.add_zero] at c0
      obtain ⟨U, HU⟩ : ∃ w, Hid (w = wr.alloc (.cells #[.slice oo y.opts.length oc, .bool y.doubt] 40)) := ⟨_, Lib.hid rfl⟩
      have HBU : Hid (Below wr.heap.size wr U) := Lib.hid (by rw [HU.out]; exact (Below.refl _ _).alloc (Nat.le_refl _) _)
      have HBWU := Lib.hid (below_step HR.out.1 HBU.out)
      have HC := Lib.hid (Hch.out y oo oc hoc1 hoc2 U (hel.below stEv HBWU.out))
      obtain ⟨ch, Hc⟩ : ∃ m, Hid (m = choices y) := ⟨_, Lib.hid rfl⟩
      have HDb : Hid (dbt y = decide (ch > 1)) := Lib.hid (by rw [Hc.out]; rfl)
      rw [← Hc.out] at HC
      obtain ⟨on, Hon⟩ : ∃ m, Hid (m = y.opts.length) := ⟨_, Lib.hid rfl⟩
      obtain ⟨yd, Hyd⟩ : ∃ m, Hid (m = y.doubt) := ⟨_, Lib.hid rfl⟩
      rw [← Hon.out] at c0 HC HU
      rw [← Hyd.out] at c1 HC HU
      clear hrg hel hoc1
      go_wp2_with fail
      rw [← HU.out]
      refine HC.out.mono ?_
      rintro e w3 ⟨rfl, hb3⟩
      have HB3 := Lib.hid (below_step HBWU.out hb3)
      clear hb3 c0 c1
      by_cases hch : 1 < ch
      · have hd2 : decide (ch > 1) = true := decide_eq_true hch
        have hd2' : decide (1 < ch) = true := decide_eq_true hch
        have HN2 : Hid (c + 1 = doubts (l.take (k + 1))) := Lib.hid (by rw [HNx.out, HDb.out, hd2, if_pos rfl])
        go_wp2_with fail
        go_round
        case rel => exact ⟨k + 1, c + 1, by omega, by omega, by go_num, by go_num, Lib.hid ⟨HB3.out, HN2.out⟩⟩
        case measure => simp [intOf]; omega
      · have hd2 : decide (ch > 1) = false := decide_eq_false hch
        have hd2' : decide (1 < ch) = false := decide_eq_false hch
        have HN2 : Hid (c = doubts (l.take (k + 1))) := Lib.hid (by rw [HNx.out, HDb.out, hd2]; rfl)
        go_wp2_with fail
        go_round
        case rel => exact ⟨k + 1, c, by omega, by omega, rfl, by go_num, Lib.hid ⟨HB3.out, HN2.out⟩⟩
        case measure => simp [intOf]; omega
    · obtain rfl : k = n := by omega
      have hd : decide ((k : Int) < k) = false := decide_eq_false (by omega)
      have HE : Hid (c = D) := Lib.hid (by rw [HD.out, HR.out.2, Hn.out, List.take_length])
      obtain rfl := HE.out
      go_wp2_with fail
      go_ret
      exact ⟨rfl, HR.out.1⟩
end Go.Proofs.Ytolnpimnoajcaaa
