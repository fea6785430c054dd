/- The walks of package disk: New, Read. -/
import Derived.Test.YtenddmcepfkbaaaDskWalksA
import Derived.Test.YtenddmcepfkbaaaTwo
import Derived.OwnWalk
namespace Go.Proofs.Ytenddmcepfkbaaa
open Go.RowKit

theorem info_u8 : (Try.prog.info? 5).map (fun i => (i.zero, i.size, i.bytes)) = some (some (.int .u8 0), 1, 1) := by kernel_rfl

theorem new_no (s : Int) (h : s < 1 ∨ 8000 < s) (w : World) : Calls Try.prog 13 #[.int .i64 s] w fun e w' => e = .returned (.pointer none) ∧ w = w' := by
  rcases h with h | h
  · go_enter Try.func13, Try.ntmps13
    go_wp2
    go_ret
    exact ⟨rfl, rfl⟩
  · have h1 : ¬ s < 1 := by omega
    go_enter Try.func13, Try.ntmps13
    go_wp2
    go_ret
    exact ⟨rfl, rfl⟩

theorem new_any (n : Nat) (h1 : 1 ≤ n) (h2 : n ≤ 8000) (w : World) : Calls Try.prog 13 #[.int .i64 n] w fun e w' =>
    ∃ b, e = .returned (.pointer (some ⟨b, 0, none⟩)) ∧ Below w.heap.size w w' ∧ w.heap.size ≤ b ∧ ∃ bs, w.heap.size ≤ bs ∧ IsDisk n w' b bs (.slice none 0 0) (Dsk.zero n) := by
  obtain ⟨i1, hi1, hy0, hy1, hy2⟩ := info_parts info_u8
  obtain ⟨N, HN⟩ : ∃ N, Hid (N = 64 * n) := ⟨_, Lib.hid rfl⟩
  have e1 : (n : Int) * 64 = (N : Int) := by have := HN.out; omega
  have hN : (N : Int) ≤ 512000 := by have := HN.out; omega
  have g1 : ¬ (n : Int) < 1 := by omega
  have g2 : ¬ (8000 : Int) < n := by omega
  have H1 := Lib.hid h1
  have H2 := Lib.hid h2
  clear h1 h2
  go_enter Try.func13, Try.ntmps13
  go_wp2_with (at_make; refine wpList_make_full _ rfl _ _ 56 rfl w.heap.size 5 i1 (.int .u8 0) 1 Try.underlying56 hi1 hy0 hy1 .i64 .i64 _ _ N rfl rfl rfl rfl (by rw [hy2]; omega) (by unfold maxLen; omega) (Nat.le_refl _) ?_; intro w3 hown hgr)
  have HO := Lib.hid hown
  have HG := Lib.hid hgr
  clear hown hgr
  go_ret
  have ho := HO.out
  have hg := HG.out
  have hlt := (ho.lt w.heap.size rfl).2
  have hbl : Below w.heap.size w w3 := ⟨hg.os, hg.tape, hg.output, hg.size, fun k hk => hg.block k hk (by simp)⟩
  have hW : Whole w3 w.heap.size 5 (stC (Dsk.zero n).st) := by
    rcases ho.2 with ⟨hh, _⟩ | ⟨g, cap, cur, hv, _, hc, _, _, hcs, htk⟩
    · simp at hh
    · simp only [Value.slice.injEq, Option.some.injEq, Addr.mk.injEq, and_true] at hv
      obtain ⟨rfl, -, rfl⟩ := hv
      have e : (madeCells (Value.int .u8 0).cells (N * 1)).toList = List.replicate N (Value.int .u8 0) := by rw [Nat.mul_one]; exact toList_madeCells_one _ _
      rw [e] at htk
      have e2 : cur = stC (Dsk.zero n).st := by
        apply Array.ext'
        have h3 : cur.toList.take (N * 1) = cur.toList := List.take_of_length_le (by rw [Array.length_toList, hcs]; omega)
        rw [h3] at htk
        rw [htk, HN.out]
        simp [stC, Lib.byteCells, Dsk.zero]
      rw [← e2]
      exact hc
  have e3 : 64 * n = N := HN.out.symm
  refine ⟨w3.heap.size, rfl, hbl.alloc hg.size _, hg.size, w.heap.size, Nat.le_refl _, ⟨?_, hW.alloc _, World.ownsRow_nil _ _ _ _, Dsk.zero_ok H1.out H2.out⟩⟩
  unfold diskC
  rw [e3]
  exact Whole.new _ _ _

section
variable {n : Nat} {W W' : World} {b bs : Nat} {pv : Value} {D : Dsk.Dk}

theorem IsDisk.slice (h : IsDisk n W b bs pv D) : ∃ ao cap, pv = .slice ao D.pd.length cap ∧ (∀ k, k < D.pd.length → ∃ g, ao = some ⟨g, 0, none⟩) := by
  rcases h.row.2 with ⟨rfl, h0⟩ | ⟨g, cap, cur, rfl, _⟩
  · exact ⟨none, 0, by rw [h0], fun k hk => by omega⟩
  · exact ⟨some ⟨g, 0, none⟩, cap, rfl, fun _ _ => ⟨g, rfl⟩⟩
theorem IsDisk.pend (h : IsDisk n W b bs pv D) {g cap : Nat} (hp : pv = .slice (some ⟨g, 0, none⟩) D.pd.length cap) (k : Nat) (hk : k < D.pd.length) :
    W.cell? ⟨g, k * 2, none⟩ = some (.int .i64 (D.pd[k].1 : Nat)) ∧ W.cell? ⟨g, k * 2 + 1, none⟩ = some (.string D.pd[k].2) := by
  have e : ∀ j, (⟨g, 0, none⟩ : Addr).add j = ⟨g, j, none⟩ := fun j => by unfold Addr.add; split <;> simp_all
  have h1 := pdC_get D.pd k hk
  have h2 := h.row.cells (g := g) (by rw [hp]; rfl)
  have h3 := h2 _ _ h1.1
  have h4 := h2 _ _ h1.2
  rw [e] at h3 h4
  exact ⟨h3, h4⟩

theorem read_off (h : IsDisk n W b bs pv D) (ho : D.off = true) (s : Int) : Calls Try.prog 18 #[.pointer (some ⟨b, 0, none⟩), .int .i64 s] W fun e w' => e = .returned (.tuple #[.string ⟨#[]⟩, .int .i64 18]) ∧ W = w' := by
  have HO := Lib.hid (hind_off h ho)
  clear h ho
  go_enter Try.func18, Try.ntmps18
  go_wp2_with fail
  refine HO.out.mono ?_
  rintro e _ ⟨rfl, rfl⟩
  go_wp2
  go_ret2
  exact ⟨rfl, rfl⟩
theorem read_bad (h : IsDisk n W b bs pv D) (ho : D.off = false) (s : Int) (hs : Dsk.has n s = false) : Calls Try.prog 18 #[.pointer (some ⟨b, 0, none⟩), .int .i64 s] W fun e w' => e = .returned (.tuple #[.string ⟨#[]⟩, .int .i64 1]) ∧ W = w' := by
  have HO := Lib.hid (hind_on h ho)
  have hh := hasSector_any h s
  rw [hs] at hh
  have HS := Lib.hid hh
  clear h ho hh hs
  go_enter Try.func18, Try.ntmps18
  go_wp2_with fail
  refine HO.out.mono ?_
  rintro e _ ⟨rfl, rfl⟩
  go_wp2_with fail
  refine HS.out.mono ?_
  rintro e _ ⟨rfl, rfl⟩
  go_wp2
  go_ret2
  exact ⟨rfl, rfl⟩

theorem bytes_len {st : List UInt8} {n s : Nat} (h : st.length = 64 * n) (hs : s < n) : (Dsk.bytes st s).length = 64 := by
  unfold Dsk.bytes
  rw [List.length_take, List.length_drop]
  omega

set_option maxHeartbeats 1000000 in
theorem read_good (h : IsDisk n W b bs pv D) (ho : D.off = false) (s : Nat) (hs : s < n) : Calls Try.prog 18 #[.pointer (some ⟨b, 0, none⟩), .int .i64 s] W fun e w' => e = .returned (.tuple #[.string (Dsk.seen D s), .int .i64 0]) ∧ Below W.heap.size W w' := by
  have HO := Lib.hid (hind_on h ho)
  have hh := hasSector_any h s
  rw [Dsk.has_iff.2 ⟨by omega, by omega⟩] at hh
  have HS := Lib.hid hh
  have H := Lib.hid h
  have c1 := h.cells.2.1
  obtain ⟨ao, cap, hpv, hao⟩ := h.slice
  rw [hpv] at c1
  have HP := Lib.hid hpv
  have HA := Lib.hid hao
  obtain ⟨L, HL⟩ : ∃ L, Hid (L = D.pd.length) := ⟨_, Lib.hid rfl⟩
  rw [← HL.out] at c1
  have hL : (L : Int) ≤ 1000000 := by have := h.ok.few; have := HL.out; omega
  have hbl := h.whole.lt
  have hs' : Hid (s < n) := Lib.hid hs
  obtain ⟨v, Hv⟩ : ∃ v, Hid (v = Dsk.seen D s) := ⟨_, Lib.hid rfl⟩
  rw [← Hv.out]
  clear h ho hh hpv hao hs
  go_enter Try.func18, Try.ntmps18
  go_wp2_with fail
  refine HO.out.mono ?_
  rintro e _ ⟨rfl, rfl⟩
  go_wp2_with fail
  refine HS.out.mono ?_
  rintro e _ ⟨rfl, rfl⟩
  go_wp2
  go_loopw [7] (fun i wr => ∃ k : Nat, k ≤ L ∧ i = .int .i64 ((k : Int) - 1) ∧ Hid (Below W.heap.size W wr) ∧ Hid (∀ j, (hj : j < D.pd.length) → k ≤ j → D.pd[j].1 ≠ s)) (fun i _ => (intOf i + 1).toNat)
  case atStart => exact ⟨L, Nat.le_refl _, rfl, Lib.hid (Below.refl _ _), Lib.hid fun j hj hk => by have := HL.out; omega⟩
  case round =>
    obtain ⟨k, hk, rfl, HB, HF⟩ := hrel
    have c1' : wr.cell? ⟨b, 1, none⟩ = some (.slice ao L cap) := by rw [HB.out.cell (p := ⟨b, 1, none⟩) hbl]; exact c1
    by_cases hk0 : k = 0
    · subst hk0
      have e0 : (((0 : Nat) : Int) - 1) = -1 := by omega
      rw [e0]
      have HD := Lib.hid (H.out.grown HB.out)
      have hby := bytes_any HD.out s hs'.out
      obtain ⟨cp, Hcp⟩ : ∃ cp, Hid (cp = 64 * n - 64 * s) := ⟨_, Lib.hid rfl⟩
      have hlen := bytes_len HD.out.ok.st hs'.out
      have hcv := run_convert_bytes_back (P := Try.prog) wr 56 9 5 ⟨bs, 64 * s, none⟩ cp (Dsk.bytes D.st s) Try.underlying56 Try.underlying5 Try.underlying9 (fun j hj => by
        have e : (⟨bs, 64 * s, none⟩ : Addr).add j = ⟨bs, 64 * s + j, none⟩ := by unfold Addr.add; split <;> simp_all
        have hs2 := hs'.out
        rw [e, HD.out.byte (64 * s + j) (by omega)]
        simp only [Dsk.bytes, List.getElem_take, List.getElem_drop])
      rw [hlen] at hcv
      rw [← Hcp.out] at hby
      have HBy := Lib.hid hby
      have Hr : Hid (v = ⟨(Dsk.bytes D.st s).toArray⟩) := Lib.hid (by
        rw [Hv.out]; unfold Dsk.seen
        rw [Dsk.lastP_none fun j hj => HF.out j hj (by omega)])
      obtain ⟨B64, HB64⟩ : ∃ B, Hid (B = (⟨(Dsk.bytes D.st s).toArray⟩ : ByteArray)) := ⟨_, Lib.hid rfl⟩
      rw [← HB64.out] at hcv
      clear hby hlen c1'
      go_wp2_with fail
      refine HBy.out.mono ?_
      rintro e _ ⟨rfl, rfl⟩
      go_wp2
      go_ret2
      exact ⟨by rw [Hr.out, ← HB64.out] <;> rfl, HB.out⟩
    · obtain ⟨m, rfl⟩ : ∃ m, k = m + 1 := ⟨k - 1, by omega⟩
      have e0 : (((m + 1 : Nat) : Int) - 1) = (m : Int) := by omega
      rw [e0]
      have hmL : m < D.pd.length := by have := HL.out; omega
      obtain ⟨g, rfl⟩ := HA.out m hmL
      have hp := (H.out.grown HB.out).pend HP.out m hmL
      obtain ⟨x, Hx⟩ : ∃ x, Hid (x = D.pd[m].1) := ⟨_, Lib.hid rfl⟩
      obtain ⟨t, Ht⟩ : ∃ x, Hid (x = D.pd[m].2) := ⟨_, Lib.hid rfl⟩
      rw [← Hx.out, ← Ht.out] at hp
      obtain ⟨p1, p2⟩ := hp
      have hm' : (m : Int) < L := by omega
      clear hk0 e0
      by_cases hxs : x = s
      · have Hr : Hid (v = t) := Lib.hid (by
          rw [Hv.out]; unfold Dsk.seen
          rw [Dsk.lastP_some hmL (by rw [← Hx.out, hxs]) fun j hj hlt => HF.out j hj (by omega)]
          exact Ht.out.symm)
        have hd : ((x : Int) == (s : Int)) = true := by simp [hxs]
        clear hxs
        go_wp2
        go_ret2
        exact ⟨by rw [Hr.out] <;> rfl, below_step HB.out ((Below.refl _ _).alloc (Nat.le_refl _) _)⟩
      · have hd : ((x : Int) == (s : Int)) = false := by simp; omega
        have HF2 : Hid (∀ j, (hj : j < D.pd.length) → m ≤ j → D.pd[j].1 ≠ s) := Lib.hid fun j hj hle => by
          by_cases e : j = m
          · subst e; rw [← Hx.out]; exact hxs
          · exact HF.out j hj (by omega)
        clear hxs
        go_wp2
        go_roundw
        case rel => exact ⟨m, by omega, rfl, Lib.hid (below_step HB.out ((Below.refl _ _).alloc (Nat.le_refl _) _)), HF2⟩
        case measure => simp [intOf]

theorem read_any (h : IsDisk n W b bs pv D) (s : Int) : Calls Try.prog 18 #[.pointer (some ⟨b, 0, none⟩), .int .i64 s] W fun e w' => e = .returned (.tuple #[.string (Dsk.readV n D s), .int .i64 (Dsk.readE n D s)]) ∧ Below W.heap.size W w' := by
  unfold Dsk.readV Dsk.readE
  cases ho : D.off
  · cases hs : Dsk.has n s
    · exact (read_bad h ho s hs).mono fun e w' ⟨h1, h2⟩ => ⟨h1, h2 ▸ Below.refl _ _⟩
    · obtain ⟨h1, h2⟩ := Dsk.has_iff.1 hs
      obtain ⟨k, rfl⟩ : ∃ k : Nat, s = k := ⟨s.toNat, by omega⟩
      exact read_good h ho k (by omega)
  · exact (read_off h ho s).mono fun e w' ⟨h1, h2⟩ => ⟨h1, h2 ▸ Below.refl _ _⟩
end

end Go.Proofs.Ytenddmcepfkbaaa
