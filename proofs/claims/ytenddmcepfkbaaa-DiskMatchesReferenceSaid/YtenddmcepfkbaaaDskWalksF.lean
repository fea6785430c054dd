/- The walks of package disk: Rot. -/
import Derived.Test.YtenddmcepfkbaaaDskWalksE
namespace Go.Proofs.Ytenddmcepfkbaaa
open Go.RowKit

theorem stC_rot (st : List UInt8) (i : Nat) (h : i < st.length) (m : Nat) (hm : m < 256) : (stC st).setIfInBounds i (.int .u8 (((st[i]).toNat ^^^ m : Nat) : Int)) = stC (Dsk.rotAt st i m) := by
  have e : (st[i]?.getD 0 ^^^ UInt8.ofNat (m : Int).toNat).toNat = (st[i]).toNat ^^^ m := by
    rw [List.getElem?_eq_getElem h]
    simp [UInt8.toNat_xor]
    congr 1
    omega
  apply Array.ext'
  unfold stC Dsk.rotAt Lib.byteCells
  rw [List.map_set, e]
  simp

section
variable {n : Nat} {W W' : World} {b bs : Nat} {pv : Value} {D : Dsk.Dk}

theorem rot_nil (s a m : Int) (w : World) : Calls Try.prog 30 #[.pointer none, .int .i64 s, .int .i64 a, .int .i64 m] w fun e w' => e = .returned (.tuple #[]) ∧ w = w' := by
  go_enter Try.func30, Try.ntmps30
  go_wp2
  (try simp only [Exit.inBlock, Exit.then])
  refine bodyPost_ret (results_none rfl _ _ _) rfl ?_
  exact ⟨rfl, rfl⟩

set_option maxHeartbeats 1000000 in
theorem rot_bad (h : IsDisk n W b bs pv D) (s a m : Int) (hr : Dsk.rotB n s a m = false) : Calls Try.prog 30 #[.pointer (some ⟨b, 0, none⟩), .int .i64 s, .int .i64 a, .int .i64 m] W fun e w' => e = .returned (.tuple #[]) ∧ W = w' := by
  have hh := hasSector_any h s
  have hc : Dsk.has n s = false ∨ Dsk.has n s = true ∧ (a < 0 ∨ ¬ a < 0 ∧ (64 ≤ a ∨ ¬ 64 ≤ a ∧ (m < 1 ∨ ¬ m < 1 ∧ 255 < m))) := by
    cases hs : Dsk.has n s
    · exact Or.inl rfl
    · refine Or.inr ⟨rfl, ?_⟩
      have h1 := Dsk.has_iff.1 hs
      have h2 : ¬ ((0 ≤ s ∧ s < n) ∧ (0 ≤ a ∧ a < 64) ∧ 1 ≤ m ∧ m ≤ 255) := fun hh => by rw [Dsk.rotB_iff.2 hh] at hr; cases hr
      omega
  rcases hc with hs | ⟨hs, hc | ⟨h1, hc | ⟨h2, hc | ⟨h3, hc⟩⟩⟩⟩
  all_goals
    rw [hs] at hh
    have HS := Lib.hid hh
    clear h hh hs hr
    go_enter Try.func30, Try.ntmps30
    go_wp2_with fail
    refine HS.out.mono ?_
    rintro e _ ⟨rfl, rfl⟩
    go_wp2
    (try simp only [Exit.inBlock, Exit.then])
    refine bodyPost_ret (results_none rfl _ _ _) rfl ?_
    exact ⟨rfl, rfl⟩

set_option maxHeartbeats 1000000 in
theorem rot_good (h : IsDisk n W b bs pv D) (s a m : Nat) (hs : s < n) (ha : a < 64) (hm1 : 1 ≤ m) (hm2 : m ≤ 255) : Calls Try.prog 30 #[.pointer (some ⟨b, 0, none⟩), .int .i64 s, .int .i64 a, .int .i64 m] W fun e w' => e = .returned (.tuple #[]) ∧ Left n W b bs pv { D with st := Dsk.rotAt D.st (64 * s + a) m } w' := by
  have hh := hasSector_any h s
  rw [Dsk.has_iff.2 ⟨by omega, by omega⟩] at hh
  have HS := Lib.hid hh
  have hby := bytes_any h s hs
  obtain ⟨cp, Hcp⟩ : ∃ cp, Hid (cp = 64 * n - 64 * s) := ⟨_, Lib.hid rfl⟩
  rw [← Hcp.out] at hby
  have HBy := Lib.hid hby
  have hi : 64 * s + a < D.st.length := by rw [h.ok.st]; omega
  have hcell := h.byte (64 * s + a) (by omega)
  have hfr := h.stable.frozen (64 * s + a)
  obtain ⟨c, Hc⟩ : ∃ c : Nat, Hid (c = (D.st[64 * s + a]'hi).toNat) := ⟨_, Lib.hid rfl⟩
  rw [← Hc.out] at hcell
  have hc : c < 256 := by rw [Hc.out]; exact UInt8.toNat_lt _
  have hx : bits .xor .u8 (c : Int) (m : Int) = ((c ^^^ m : Nat) : Int) := u8_xor_nat c m hc (by omega)
  obtain ⟨r, Hr⟩ : ∃ r : Nat, Hid (r = c ^^^ m) := ⟨_, Lib.hid rfl⟩
  rw [← Hr.out] at hx
  have hw : IntKind.u8.wrap (m : Int) = (m : Int) := by
    have e : ∀ n : Int, IntKind.u8.wrap n = n % 256 := fun n => rfl
    rw [e]; omega
  have ha' : (a : Int) < 64 := by omega
  have ha2 : ¬ (64 : Int) ≤ a := by omega
  have hm1' : ¬ (m : Int) < 1 := by omega
  have hm2' : ¬ (255 : Int) < m := by omega
  have HLf : Hid (Left n W b bs pv { D with st := Dsk.rotAt D.st (64 * s + a) m } (W.setCell ⟨bs, 64 * s + a, none⟩ (.int .u8 (r : Int)))) := Lib.hid (by
    refine ⟨pv, (Only.refl _ _).setCell (p := ⟨bs, 64 * s + a, none⟩) (Or.inl (Or.inr (Or.inl rfl))) _, ⟨h.whole.far (p := ⟨bs, 64 * s + a, none⟩) h.apart _, ?_, ?_, ?_⟩, fun _ hk => Or.inl hk⟩
    · have h1 := h.stable.set (64 * s + a) (.int .u8 (r : Int))
      rw [Hr.out, Hc.out, stC_rot _ _ hi m (by omega)] at h1
      rw [Hr.out, Hc.out]
      exact h1
    · exact h.row.kept (row := some bs) ⟨rfl, rfl, rfl, by simp, fun k _ hk => Below.heap_setCell _ _ _ _ (fun e => hk (by rw [e]))⟩ (Or.inr h.pvs)
    · have h2 := Dsk.rot_ok h.ok s a m
      unfold Dsk.rotD at h2
      rw [if_pos (Dsk.rotB_iff.2 ⟨⟨by omega, by omega⟩, ⟨by omega, by omega⟩, by omega, by omega⟩), Int.toNat_natCast, Int.toNat_natCast] at h2
      exact h2)
  clear hh hby hm1 hm2 hc ha
  replace h := Lib.hid h
  replace hs := Lib.hid hs
  replace hi := Lib.hid hi
  go_enter Try.func30, Try.ntmps30
  go_wp2_with fail
  refine HS.out.mono ?_
  rintro e _ ⟨rfl, rfl⟩
  go_wp2_with fail
  refine HBy.out.mono ?_
  rintro e _ ⟨rfl, rfl⟩
  go_wp2
  go_end0
  exact ⟨rfl, HLf.out⟩

theorem rot_any (h : IsDisk n W b bs pv D) (s a m : Int) : Calls Try.prog 30 #[.pointer (some ⟨b, 0, none⟩), .int .i64 s, .int .i64 a, .int .i64 m] W fun e w' => e = .returned (.tuple #[]) ∧ Left n W b bs pv (Dsk.rotD n D s a m) w' := by
  unfold Dsk.rotD
  cases hr : Dsk.rotB n s a m
  · exact (rot_bad h s a m hr).mono fun e w' ⟨h1, h2⟩ => ⟨h1, h2 ▸ Left.same h (Below.refl _ _)⟩
  · obtain ⟨⟨h1, h2⟩, ⟨h3, h4⟩, h5, h6⟩ := Dsk.rotB_iff.1 hr
    obtain ⟨s', rfl⟩ : ∃ k : Nat, s = k := ⟨s.toNat, by omega⟩
    obtain ⟨a', rfl⟩ : ∃ k : Nat, a = k := ⟨a.toNat, by omega⟩
    obtain ⟨m', rfl⟩ : ∃ k : Nat, m = k := ⟨m.toNat, by omega⟩
    exact rot_good h s' a' m' (by omega) (by omega) (by omega) (by omega)
end

end Go.Proofs.Ytenddmcepfkbaaa
