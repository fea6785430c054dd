/- The walks of the reference's disk: Raw, Rot. -/
import Derived.Test.YtenddmcepfkbaaaDrfE
import Derived.Lib.AppendStr
import Derived.IntWalk
namespace Go.Proofs.Ytenddmcepfkbaaa
open Go.RowKit
section
variable {n : Nat} {W W' : World} {b g gc : Nat} {pv : Value} {D : Dsk.Dk}

theorem bytes_upto (st : List UInt8) (k : Nat) : st.take (64 * (k + 1)) = st.take (64 * k) ++ (secS st k).data.toList := by
  unfold secS Dsk.bytes
  rw [show 64 * (k + 1) = 64 * k + 64 by omega, List.take_add]

set_option maxHeartbeats 1000000 in
theorem rraw_any (h : IsRf n W b g gc pv D) : Calls Try.prog 39 #[.pointer (some ⟨b, 0, none⟩)] W fun e w' => e = .returned (.string ⟨D.st.toArray⟩) ∧ Below W.heap.size W w' := by
  obtain ⟨i1, hi1, hy0, hy1, hy2⟩ := info_parts info_u8
  have H := Lib.hid h
  have c0 := h.cells.1
  have hbl := h.whole.lt
  have hn : (n : Int) ≤ 8000 := by have := h.ok.n2; omega
  obtain ⟨N, HN⟩ : ∃ N, Hid (N = 64 * n) := ⟨_, Lib.hid rfl⟩
  have e1 : (n : Int) * 64 = (N : Int) := by have := HN.out; omega
  have hN : (N : Int) ≤ 512000 := by have := HN.out; omega
  obtain ⟨B64, HB64⟩ : ∃ B, Hid (B = (⟨D.st.toArray⟩ : ByteArray)) := ⟨_, Lib.hid rfl⟩
  rw [← HB64.out]
  clear h
  go_enter Try.func39, Try.ntmps39
  have hpos : 1 ≤ N := by have := HN.out; have := H.out.ok.n1; omega
  go_wp2_with (at_make; refine wpList_make_own _ rfl _ _ 56 rfl W.heap.size 5 i1 (.int .u8 0) 1 Try.underlying56 hi1 hy0 hy1 .i64 .i64 (N : Int) N rfl rfl rfl (by rw [hy2]; omega) (by unfold maxLen; omega) (Nat.le_refl _) ?_; intro w3 hown hgr; have HO := Lib.hid hown; have HG := Lib.hid hgr; clear hown hgr)
  have hbl3 : Below W.heap.size W w3 := ⟨HG.out.os, HG.out.tape, HG.out.output, HG.out.size, fun k hk => HG.out.block k hk (by simp)⟩
  have HB3 := Lib.hid hbl3
  clear hbl3
  go_loopw [3, 4] (fun v i wr => ∃ k : Nat, k ≤ n ∧ i = .int .i64 k ∧ Hid (Below W.heap.size W wr ∧ wr.ownsRow W.heap.size 5 1 v (64 * k) (Lib.strCells ⟨(D.st.take (64 * k)).toArray⟩))) (fun _ i _ => n - (intOf i).toNat)
  case atStart => exact ⟨0, by omega, rfl, Lib.hid ⟨HB3.out, HO.out⟩⟩
  case round =>
    obtain ⟨k, hk, rfl, HR⟩ := hrel
    have HI := Lib.hid (H.out.grown HR.out.1)
    have c0' := HI.out.cells.1
    by_cases hlt : k < n
    · have hlt' : (k : Int) < n := by omega
      have cz := HI.out.stable.cell hlt
      obtain ⟨X, HX⟩ : ∃ X, Hid (X = secS D.st k) := ⟨_, Lib.hid rfl⟩
      have hXs : X.size = 64 := by rw [HX.out]; exact secS_size HI.out.ok.st hlt
      rw [← HX.out] at cz
      have HXs := Lib.hid hXs
      clear hXs c0
      go_wp2_with (at_builtin; go_loud (refine Lib.wpList_append_own_string _ rfl (.tmp 23) (.tmp 30) 56 9 rfl W.heap.size 5 i1 Try.underlying56 Try.underlying9 hi1 hy0 hy1 hy2 _ _ _ rfl HR.out.2 X rfl (by have := HXs.out; unfold maxLen; omega) (by have := HXs.out; omega) HR.out.1.size ?_); intro v' w2 hown hgrow _; have HW2 := Lib.hid hown; have HG2 := Lib.hid hgrow; clear hown hgrow)
      go_roundw
      case rel =>
        refine ⟨k + 1, by omega, by go_num, Lib.hid ⟨?_, ?_⟩⟩
        · exact HR.out.1.grown HG2.out (by have := HR.out.1.size; omega) (fun j e => (HR.out.2.lt j e).1)
        · have h2 := HW2.out
          rw [HXs.out, show 64 * k + 64 = 64 * (k + 1) by omega] at h2
          have e : Lib.strCells ⟨(D.st.take (64 * (k + 1))).toArray⟩ = Lib.strCells ⟨(D.st.take (64 * k)).toArray⟩ ++ Lib.strCells X := by
            unfold Lib.strCells
            rw [HX.out]
            simp only [bytes_upto, List.map_append]
          rw [e]
          exact h2
      case measure => simp [intOf]; omega
    · obtain rfl : k = n := by omega
      rw [← HN.out] at HR
      have ho := HR.out.2
      obtain ⟨m, Hm⟩ : ∃ m, Hid (N = m + 1) := ⟨N - 1, Lib.hid (by omega)⟩
      rw [Hm.out] at ho
      obtain ⟨g', cap', rfl⟩ := owns_succ ho
      rw [← Hm.out] at ho
      have hl : D.st.length = N := by rw [HN.out]; exact H.out.ok.st
      have hcv := run_convert_bytes_back (P := Try.prog) wr 56 9 5 ⟨g', 0, none⟩ cap' D.st Try.underlying56 Try.underlying5 Try.underlying9 (fun j hj => by
        refine ho.cells (g := g') rfl j _ ?_
        unfold Lib.strCells
        rw [List.take_of_length_le (by omega)]
        simp [hj])
      rw [hl, Hm.out] at hcv
      rw [← HB64.out] at hcv
      clear ho hl c0
      go_wp2
      go_ret
      exact ⟨rfl, HR.out.1⟩

theorem rrot_bad (h : IsRf n W b g gc pv D) (s a m : Int) (hr : Dsk.rotB n s a m = false) : Calls Try.prog 38 #[.pointer (some ⟨b, 0, none⟩), .int .i64 s, .int .i64 a, .int .i64 m] W fun e w' => e = .returned (.tuple #[]) ∧ W = w' := by
  have c0 := h.cells.1
  have hn := h.ok.n2
  have hc : s < 0 ∨ ¬ s < 0 ∧ ((n : Int) ≤ s ∨ ¬ (n : Int) ≤ s ∧ (a < 0 ∨ ¬ a < 0 ∧ (64 ≤ a ∨ ¬ 64 ≤ a ∧ (m < 1 ∨ ¬ m < 1 ∧ 255 < m)))) := by
    have h2 : ¬ ((0 ≤ s ∧ s < n) ∧ (0 ≤ a ∧ a < 64) ∧ 1 ≤ m ∧ m ≤ 255) := fun hh => by rw [Dsk.rotB_iff.2 hh] at hr; cases hr
    omega
  rcases hc with hc | ⟨h0, hc | ⟨h1, hc | ⟨h2, hc | ⟨h3, hc | ⟨h4, hc⟩⟩⟩⟩⟩
  all_goals
    clear h hr
    go_enter Try.func38, Try.ntmps38
    go_wp2
    (try simp only [Exit.inBlock, Exit.then])
    refine bodyPost_ret (results_none rfl _ _ _) rfl ?_
    exact ⟨rfl, rfl⟩

theorem bytes_rot {st : List UInt8} (h : st.length = 64 * n) {s j a : Nat} (hs : s < n) (hj : j < n) (ha : a < 64) (m : Int) :
    Dsk.bytes (Dsk.rotAt st (64 * s + a) m) j = if j = s then (Dsk.bytes st s).set a ((Dsk.bytes st s)[a]?.getD 0 ^^^ UInt8.ofNat m.toNat) else Dsk.bytes st j := by
  unfold Dsk.bytes Dsk.rotAt
  apply List.ext_getElem?
  intro i
  by_cases e : j = s
  · subst e
    rw [if_pos rfl]
    by_cases hi : i < 64
    · by_cases hia : a = i
      · subst hia
        simp [List.getElem?_take, List.getElem?_drop, List.getElem?_set, ha, h]
        rw [if_pos (by omega), if_pos (by omega)]
      · have h3 : ¬ (64 * j + a = 64 * j + i) := by omega
        simp [List.getElem?_take, List.getElem?_drop, List.getElem?_set, hi, hia, h3]
    · have h3 : ¬ (a = i) := by omega
      simp [List.getElem?_take, List.getElem?_drop, List.getElem?_set, hi, h3]
  · rw [if_neg e]
    by_cases hi : i < 64
    · have h3 : ¬ (64 * s + a = 64 * j + i) := by omega
      simp [List.getElem?_take, List.getElem?_drop, List.getElem?_set, hi, h3]
    · simp [List.getElem?_take, hi]
theorem secS_rot {st : List UInt8} (h : st.length = 64 * n) {s a : Nat} (hs : s < n) (ha : a < 64) (m : Int) (X V : ByteArray) (hX : X = secS st s) (hV : V.data.toList = [X.data.toList[a]?.getD 0 ^^^ UInt8.ofNat m.toNat]) :
    ∀ j, j < n → secS (Dsk.rotAt st (64 * s + a) m) j = if j = s then X.extract 0 a ++ V ++ X.extract (a + 1) X.size else secS st j := by
  intro j hj
  have hb := bytes_len h hs
  unfold secS at hX ⊢
  rw [bytes_rot h hs hj ha]
  split
  · apply ByteArray.ext
    apply Array.ext'
    have hXl : X.data.toList = Dsk.bytes st s := by rw [hX]
    have hXz : X.size = 64 := by rw [hX]; exact hb
    have h3 : (X.extract 0 a).data.toList = (Dsk.bytes st s).take a := by rw [← hXl]; simp
    have h4 : (X.extract (a + 1) 64).data.toList = (Dsk.bytes st s).drop (a + 1) := by
      have h5 : (X.extract (a + 1) 64).data.toList = (X.data.toList.drop (a + 1)).take (64 - (a + 1)) := by simp
      rw [h5, hXl, List.take_of_length_le (by rw [List.length_drop]; omega)]
    rw [hXz, ByteArray.data_append, ByteArray.data_append, Array.toList_append, Array.toList_append, h3, h4, hV, hXl, List.set_eq_take_append_cons_drop, if_pos (by omega)]
    simp
  · rfl

set_option maxHeartbeats 1000000 in
theorem rrot_good (h : IsRf n W b g gc pv D) (s a m : Nat) (hs : s < n) (ha : a < 64) (hm1 : 1 ≤ m) (hm2 : m ≤ 255) : Calls Try.prog 38 #[.pointer (some ⟨b, 0, none⟩), .int .i64 s, .int .i64 a, .int .i64 m] W fun e w' => e = .returned (.tuple #[]) ∧ LeftR n W b g gc pv { D with st := Dsk.rotAt D.st (64 * s + a) m } w' := by
  have H := Lib.hid h
  have c0 := h.cells.1
  have cz := h.stable.cell hs
  have fz := h.stable.frozen s
  have hn : (n : Int) ≤ 8000 := by have := h.ok.n2; omega
  obtain ⟨X, HX⟩ : ∃ X, Hid (X = secS D.st s) := ⟨_, Lib.hid rfl⟩
  have hXs : X.size = 64 := by rw [HX.out]; exact secS_size h.ok.st hs
  rw [← HX.out] at cz
  have haX : a < X.size := by omega
  have haX' : (a : Int) < X.size := by omega
  have haX2 : (a : Int) + 1 ≤ X.size := by omega
  have hXle : X.size ≤ 64 := by omega
  have haX3 : a ≤ X.size := by omega
  have haX4 : a + 1 ≤ X.size := by omega
  have hs1 : (s : Int) < n := by omega
  have hs2 : ¬ (n : Int) ≤ s := by omega
  have ha' : (a : Int) < 64 := by omega
  have ha2 : ¬ (64 : Int) ≤ a := by omega
  have hm1' : ¬ (m : Int) < 1 := by omega
  have hm2' : ¬ (255 : Int) < m := by omega
  have hw : IntKind.u8.wrap (m : Int) = (m : Int) := by
    have e : ∀ n : Int, IntKind.u8.wrap n = n % 256 := fun n => rfl
    rw [e]; omega
  have hc : X[a].toNat < 256 := UInt8.toNat_lt _
  have hx : bits .xor .u8 (X[a].toNat : Int) (m : Int) = ((X[a].toNat ^^^ m : Nat) : Int) := u8_xor_nat _ m hc (by omega)
  obtain ⟨r, Hr⟩ : ∃ r : Nat, Hid (r = X[a].toNat ^^^ m) := ⟨_, Lib.hid rfl⟩
  rw [← Hr.out] at hx
  have hr : r < 256 := by rw [Hr.out]; exact Nat.xor_lt_two_pow (n := 8) hc (by omega)
  obtain ⟨V, HV⟩ : ∃ V : ByteArray, Hid (V = ⟨[UInt8.ofNat r].toArray⟩) := ⟨_, Lib.hid rfl⟩
  have hVs : V.size ≤ 1 := by rw [HV.out]; exact Nat.le_refl _
  have HVd : Hid (V.data.toList = [X.data.toList[a]?.getD 0 ^^^ UInt8.ofNat (m : Int).toNat]) := Lib.hid (by
    have e : X.data.toList[a]? = some X[a] := by
      rw [List.getElem?_eq_getElem (by exact haX)]
      rfl
    rw [HV.out, e, Hr.out]
    simp)
  have HE := Lib.hid (secS_rot (n := n) h.ok.st hs ha m X V HX.out HVd.out)
  have HL2 : Hid ((Dsk.rotAt D.st (64 * s + a) m).length = 64 * n) := Lib.hid (by unfold Dsk.rotAt; rw [List.length_set]; exact h.ok.st)
  have HS := Lib.hid hs
  have HXs := Lib.hid hXs
  have hbl := h.whole.lt
  have hgl := h.stable.lt
  clear h hXs hs hm1 hm2 ha hc
  go_enter Try.func38, Try.ntmps38
  go_wp2_with fail
  obtain ⟨W1, HW1⟩ : ∃ W1, Hid (W1 = W.alloc (.cells #[.int .u8 (r : Int)] 5)) := ⟨_, Lib.hid rfl⟩
  have HI1 : Hid (IsRf n W1 b g gc pv D) := Lib.hid (by rw [HW1.out]; exact H.out.boxed _)
  have HO1 : Hid (Only (foot b g pv) W W1) := Lib.hid (by rw [HW1.out]; exact (Only.refl _ _).alloc _)
  have hcv : (convert 56 9 (.slice (some ⟨W.heap.size, 0, none⟩) 1 1)).run Try.prog W1.drew = .ok (.string V) W1.drew := by
    have := run_convert_bytes_back (P := Try.prog) W1.drew 56 9 5 ⟨W.heap.size, 0, none⟩ 1 [UInt8.ofNat r] Try.underlying56 Try.underlying5 Try.underlying9 (fun j hj => by
      have hj0 : j = 0 := by simpa using hj
      subst hj0
      have e : (⟨W.heap.size, 0, none⟩ : Addr).add 0 = ⟨W.heap.size, 0, none⟩ := by unfold Addr.add; split <;> simp_all
      have e2 : W1.drew.cell? ⟨W.heap.size, 0, none⟩ = some (.int .u8 (r : Int)) := by rw [HW1.out]; show (W.alloc _).cell? _ = _; rw [cell_alloc, if_pos rfl]; rfl
      rw [e, e2]
      simp
      omega)
    rw [← HV.out] at this
    exact this
  have hXl : ¬ (9223372036854775807 < X.size) := by omega
  have hb1 : ¬ (9223372036854775807 < a + V.size) := by omega
  have hb2 : ¬ (9223372036854775807 < a + V.size + (X.size - (a + 1))) := by omega
  have d0 := HI1.out.cells.1
  have dz := HI1.out.stable.cell HS.out
  have fz' := HI1.out.stable.frozen s
  rw [← HX.out] at dz
  rw [← HW1.out]
  clear c0 cz fz hx hr
  have hwr : IntKind.i64.wrap ((a : Int) + 1) = (a : Int) + 1 := IntWalk.i64_in _ (by omega)
  have ht1 : ((a : Int) + 1).toNat = a + 1 := by omega
  have ht0 : 0 ≤ (a : Int) + 1 := by omega
  go_still_tail 17, (by kernel_rfl)
  repeat still_step
  try refine wpStill_nil ?_
  clear hwr ht1 ht0
  go_wp2
  go_end0
  refine ⟨rfl, pv, (HO1.out.setCell (p := ⟨g, s, none⟩) (Or.inl (Or.inr (Or.inl rfl))) _).drew, ?_, fun _ hk => Or.inl hk⟩
  exact (HI1.out.put HS.out _ HL2.out HE.out).grown (Below.refl _ _).drew

theorem rrot_any (h : IsRf n W b g gc pv D) (s a m : Int) : Calls Try.prog 38 #[.pointer (some ⟨b, 0, none⟩), .int .i64 s, .int .i64 a, .int .i64 m] W fun e w' => e = .returned (.tuple #[]) ∧ LeftR n W b g gc pv (Dsk.rotD n D s a m) w' := by
  unfold Dsk.rotD
  cases hr : Dsk.rotB n s a m
  · exact (rrot_bad h s a m hr).mono fun e w' ⟨h1, h2⟩ => ⟨h1, h2 ▸ LeftR.same h (Below.refl _ _)⟩
  · obtain ⟨⟨h1, h2⟩, ⟨h3, h4⟩, h5, h6⟩ := Dsk.rotB_iff.1 hr
    obtain ⟨s', rfl⟩ : ∃ k : Nat, s = k := ⟨s.toNat, by omega⟩
    obtain ⟨a', rfl⟩ : ∃ k : Nat, a = k := ⟨a.toNat, by omega⟩
    obtain ⟨m', rfl⟩ : ∃ k : Nat, m = k := ⟨m.toNat, by omega⟩
    exact rrot_good h s' a' m' (by omega) (by omega) (by omega) (by omega)
end

end Go.Proofs.Ytenddmcepfkbaaa
