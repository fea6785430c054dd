/- link.Of: the first set that has a report with the part. -/
import Derived.Test.YtolnpimnoajcaaaLnkFunc
namespace Go.Proofs.Ytolnpimnoajcaaa
open Go.RowKit
open Evt Lnk

namespace Lnk
noncomputable def hasP (l : List Rp) (x : ByteArray) (i : Nat) : Bool := decide (bts x ∈ namesAt l i)
noncomputable def ofA (l : List Rp) (x : ByteArray) (r : Nat → Nat) : List Nat := ((groups r l.length).find? fun g => g.any (hasP l x)).getD []
def OfPost (l : List Rp) (x : ByteArray) (W : World) (e : Ending) (w' : World) : Prop :=
  ∃ v r, e = .returned v ∧ (∀ a b, a < l.length → b < l.length → (r a = r b ↔ Conn l.length (namesAt l) a b)) ∧ IsN w' v (ofA l x r) ∧ Below W.heap.size W w'
end Lnk
theorem group_lt {r : Nat → Nat} {n : Nat} {g : List Nat} (h : g ∈ groups r n) : ∀ i ∈ g, i < n := fun i hi => by
  unfold groups at h
  obtain ⟨_, _, rfl⟩ := List.mem_map.1 h
  simpa using (List.mem_filter.1 hi).1
set_option maxRecDepth 100000 in
set_option maxHeartbeats 4000000 in
theorem linkOf_any (l : List Rp) (ao : Option Addr) (cap : Nat) (x : ByteArray) (hl : l.length ≤ 1000000) (W : World) (hi : IsL 2 ElRp W ao l) :
    Calls Try.prog 16 #[.slice ao l.length cap, .string x] W (OfPost l x W) := by
  obtain ⟨n, Hn⟩ : ∃ n, Hid (n = l.length) := ⟨_, Lib.hid rfl⟩
  obtain ⟨S, HS⟩ : ∃ n, Hid (n = W.heap.size) := ⟨_, Lib.hid rfl⟩
  obtain ⟨V1, HV1⟩ : ∃ w, Hid (w = W.alloc (.cells #[.slice ao n cap] 22)) := ⟨_, Lib.hid rfl⟩
  obtain ⟨V, HV⟩ : ∃ w, Hid (w = V1.alloc (.cells #[.string x] 9)) := ⟨_, Lib.hid rfl⟩
  have z1 : V1.heap.size = S + 1 := by rw [HV1.out, size_alloc, HS.out]
  have b1 : Below W.heap.size W V1 := by rw [HV1.out]; exact (Below.refl _ _).alloc (Nat.le_refl _) _
  have b2 : Below V1.heap.size V1 V := by rw [HV.out]; exact (Below.refl _ _).alloc (Nat.le_refl _) _
  have HB : Hid (Below W.heap.size W V) := Lib.hid (below_step b1 b2)
  have HW1 : Hid (Whole V S 22 #[.slice ao n cap]) := Lib.hid (whole_belowM (by rw [HV1.out, HS.out]; exact Whole.new _ _ _) b2)
  have HW2 : Hid (Whole V (S + 1) 9 #[.string x]) := Lib.hid (by rw [HV.out, ← z1]; exact Whole.new _ _ _)
  have HI := Lib.hid (hi.below stRp HB.out)
  have HCm := Lib.hid (comp_any coll_any ao l cap hl V HI.out)
  have HPost : Hid (∀ v r w', (∀ a b, a < l.length → b < l.length → (r a = r b ↔ Conn l.length (namesAt l) a b)) → IsN w' v (ofA l x r) → Below W.heap.size W w' → OfPost l x W (.returned v) w') := Lib.hid (fun v r w' h1 h2 h3 => ⟨v, r, rfl, h1, h2, h3⟩)
  rw [← Hn.out] at HCm hl ⊢
  clear hi z1 b1 b2
  go_enter Try.func16, Try.ntmps16
  have u0 := HW1.out.cell 0
  go_wp2_with fail
  rw [← HS.out, ← HV1.out, ← HV.out]
  refine HCm.out.mono ?_
  rintro e w1 ⟨sv, r, rfl, hr, hs, hb⟩
  have HB1 := Lib.hid hb
  have HBW1 := Lib.hid (below_step HB.out hb)
  have HRr := Lib.hid hr
  obtain ⟨so, sc, rfl, hsets⟩ := IsNN.sets hs
  have HSt := Lib.hid hsets
  obtain ⟨gs, Hgs⟩ : ∃ g, Hid (g = groups r l.length) := ⟨_, Lib.hid rfl⟩
  rw [← Hgs.out] at HSt ⊢
  obtain ⟨N, HN⟩ : ∃ g, Hid (g = gs.length) := ⟨_, Lib.hid rfl⟩
  rw [← HN.out]
  have hNn : N ≤ n := by rw [HN.out, Hgs.out, groups_len, Hn.out]; exact reps_len r _
  clear hr hs hb hsets u0
  go_wp2_with fail
  go_loopw [12] (fun i wr => ∃ k : Nat, k ≤ N ∧ i = .int .i64 k ∧ Hid (Below w1.heap.size w1 wr ∧ ∀ g ∈ gs.take k, g.any (hasP l x) = false)) (fun i _ => N - (intOf i).toNat)
  case atStart => exact ⟨0, Nat.zero_le _, by go_num, Lib.hid ⟨Below.refl _ _, by simp⟩⟩
  case round =>
    obtain ⟨k, hk, rfl, HR⟩ := hrel
    by_cases hkn : k < N
    · have hd : decide ((k : Int) < N) = true := decide_eq_true (by omega)
      have hb0 : (0 : Int) ≤ k := by omega
      have hb1 : (k : Int) < N := by omega
      have hkg : k < gs.length := by rw [← HN.out]; exact hkn
      obtain ⟨b, u, rfl, hb, cc, hu⟩ := HSt.out k hkg
      have cc := (cellB HR.out.1 hb).trans cc
      have HMm : Hid (gs[k] ∈ groups r l.length) := Lib.hid (by rw [← Hgs.out]; exact List.getElem_mem hkg)
      have hgl : gs[k].length ≤ 1000000 := by have := group_len HMm.out; rw [← Hn.out] at this; omega
      have HBV := Lib.hid (below_step HB1.out HR.out.1)
      have HC := Lib.hid (containsF_any gs[k] hgl S (S + 1) (hasP l x) wr u (hu.below HR.out.1) (fun i hi w hw => by
        have hil : i < l.length := group_lt HMm.out i hi
        have hbw := below_step HBV.out hw
        have := of1_any l ao cap S (S + 1) x i hil (by rw [← Hn.out]; exact hl) w (HI.out.below stRp hbw) (Nat.lt_of_lt_of_le HW1.out.lt hbw.size) (Nat.lt_of_lt_of_le HW2.out.lt hbw.size)
          (by rw [← Hn.out]; exact (cellB hbw HW1.out.lt).trans (HW1.out.cell 0)) ((cellB hbw HW2.out.lt).trans (HW2.out.cell 0))
        rw [← namesAt_get hil] at this
        exact this))
      have Hu := Lib.hid hu
      obtain ⟨ua, uc, rfl, -⟩ := hu
      obtain ⟨m, Hm⟩ : ∃ m, Hid (m = gs[k].length) := ⟨_, Lib.hid rfl⟩
      obtain ⟨y, Hy⟩ : ∃ y, Hid (y = gs[k].any (hasP l x)) := ⟨_, Lib.hid rfl⟩
      rw [← Hm.out, ← Hy.out] at HC
      rw [← Hm.out] at cc
      clear hgl
      go_wp2_with fail
      refine HC.out.mono ?_
      rintro e w2 ⟨rfl, hb2⟩
      have HB2 := Lib.hid (below_step HR.out.1 hb2)
      clear hb2 cc
      cases y with
      | true =>
        have HOf : Hid (ofA l x r = gs[k]) := Lib.hid (by
          unfold ofA
          rw [← Hgs.out]
          have hf : gs.find? (fun g => g.any (hasP l x)) = some gs[k] := by
            rw [List.find?_eq_some_iff_getElem]
            exact ⟨Hy.out.symm, k, hkg, rfl, fun j hj => by
              have : gs[j] ∈ gs.take k := by rw [List.mem_take_iff_getElem]; exact ⟨j, by omega, rfl⟩
              rw [HR.out.2 _ this]; rfl⟩
          rw [hf]; rfl)
        have HIs : Hid (IsN w2 (.slice ua m uc) (ofA l x r)) := Lib.hid (by rw [HOf.out, Hm.out]; exact Hu.out.below HB2.out)
        have HBe := Lib.hid (below_step HBW1.out HB2.out)
        go_wp2_with fail
        go_ret
        exact HPost.out _ r w2 HRr.out HIs.out HBe.out
      | false =>
        have HNx : Hid (∀ g ∈ gs.take (k + 1), g.any (hasP l x) = false) := Lib.hid (fun z hz => by
          rw [← List.take_append_getElem hkg, List.mem_append, List.mem_singleton] at hz
          rcases hz with hz | hz
          · exact HR.out.2 z hz
          · rw [hz]; exact Hy.out.symm)
        go_wp2_with fail
        go_round
        case rel => exact ⟨k + 1, by omega, by go_num, Lib.hid ⟨HB2.out, HNx.out⟩⟩
        case measure => simp [intOf]; omega
    · obtain rfl : k = N := by omega
      have hd : decide ((k : Int) < k) = false := decide_eq_false (by omega)
      have HOf : Hid (ofA l x r = []) := Lib.hid (by
        unfold ofA
        rw [← Hgs.out]
        have hf : gs.find? (fun g => g.any (hasP l x)) = none := by
          rw [List.find?_eq_none]
          intro g hg
          have := HR.out.2 g (by rw [HN.out, List.take_length]; exact hg)
          rw [this]; simp
        rw [hf]; rfl)
      have HIs : Hid (IsN wr (.slice none 0 0) (ofA l x r)) := Lib.hid (by rw [HOf.out]; exact ⟨none, 0, rfl, fun j hj => by simp at hj⟩)
      have HBe := Lib.hid (below_step HBW1.out HR.out.1)
      go_wp2_with fail
      go_ret
      exact HPost.out _ r wr HRr.out HIs.out HBe.out
end Go.Proofs.Ytolnpimnoajcaaa
