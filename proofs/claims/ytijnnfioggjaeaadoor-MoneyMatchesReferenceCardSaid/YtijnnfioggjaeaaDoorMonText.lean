/- The walks of money.Text and money.Parse. -/
import Derived.Test.YtijnnfioggjaeaaDoorMonWalksA
import Derived.Test.YtijnnfioggjaeaaDoorMonTextMath
import Derived.Test.YtijnnfioggjaeaaDoorItoa
import Derived.Test.YtijnnfioggjaeaaDoorGrown
import Derived.Laws.RangeAny
namespace Go.Proofs.YtijnnfioggjaeaaDoor
open Go.RowKit

theorem cut_one (D : List UInt8) : (⟨D.toArray⟩ : ByteArray).extract 1 D.length = ⟨(D.drop 1).toArray⟩ := by
  apply ByteArray.ext
  apply Array.ext'
  rw [Lib.extract_data]
  simp
  exact List.take_of_length_le (by simp)

set_option maxHeartbeats 1000000 in
theorem text_no (n : Int) (h : ¬ (0 ≤ n ∧ n ≤ 1000000000000)) (w : World) :
    Calls Tryd.prog 10 #[.int .i64 n] w fun e w' => e = .returned (.tuple #[.string ⟨#[]⟩, .int .i64 1]) ∧ w = w' := by
  have Hd := isAmount_any n w
  rw [Mon.amt_no h] at Hd
  have HD := Lib.hid Hd
  clear h Hd
  go_enter Tryd.func10, Tryd.ntmps10
  go_wp2_with fail
  refine HD.out.mono ?_
  rintro e _ ⟨rfl, rfl⟩
  go_wp2
  go_ret2
  exact ⟨rfl, rfl⟩

set_option maxHeartbeats 2000000 in
theorem text_yes (n : Nat) (h : n ≤ 1000000000000) (w : World) (ht : Tab w) :
    Calls Tryd.prog 10 #[.int .i64 n] w fun e w' => e = .returned (.tuple #[.string ⟨(Mon.mtext n).toArray⟩, .int .i64 0]) ∧ Below w.heap.size w w' := by
  have Hd := isAmount_any n w
  rw [Mon.amt_iff.2 ⟨by omega, by omega⟩] at Hd
  have HD := Lib.hid Hd
  clear Hd
  obtain ⟨A, HA⟩ : ∃ Y, Hid (Y = Lib.decDigits (n / 100)) := ⟨_, Lib.hid rfl⟩
  obtain ⟨C, HC⟩ : ∃ Y, Hid (Y = Lib.decDigits (100 + n % 100)) := ⟨_, Lib.hid rfl⟩
  obtain ⟨a, Ha⟩ : ∃ Y : Nat, Hid (Y = n / 100) := ⟨_, Lib.hid rfl⟩
  obtain ⟨c, Hc⟩ : ∃ Y : Nat, Hid (Y = n % 100) := ⟨_, Lib.hid rfl⟩
  have I1 : Hid (∀ W, Tab W → Calls Tryd.prog 23 #[.int .i64 a] W fun e w' => e = .returned (.string ⟨A.toArray⟩) ∧ Below W.heap.size W w') := Lib.hid fun W hW => by rw [HA.out, Ha.out]; exact itoa_any _ (by omega) W hW
  have I2 : Hid (∀ W, Tab W → Calls Tryd.prog 23 #[.int .i64 (100 + (c : Int))] W fun e w' => e = .returned (.string ⟨C.toArray⟩) ∧ Below W.heap.size W w') := Lib.hid fun W hW => by
    have := itoa_any (100 + c) (by have := Hc.out; omega) W hW
    rw [show ((100 + c : Nat) : Int) = 100 + (c : Int) by omega] at this
    rw [HC.out, ← Hc.out]
    exact this
  have Hres : Hid (Mon.mtext n = A ++ [46] ++ C.drop 1) := by rw [HA.out, HC.out]; exact Lib.hid rfl
  rw [Hres.out]
  have e1 : (n : Int).tmod 100 = c := by rw [Hc.out]; rw [Int.tmod_eq_emod_of_nonneg (by omega)]; omega
  have e2 : (n : Int).tdiv 100 = a := by rw [Ha.out]; rw [Int.tdiv_eq_ediv_of_nonneg (by omega)]; omega
  have e3 : (n : Int) % 100 = c := by rw [Hc.out]; omega
  have e4 : (n : Int) / 100 = a := by rw [Ha.out]; omega
  have hc : (c : Int) < 100 := by have := Hc.out; omega
  have ha : (a : Int) ≤ 10000000000 := by have := Ha.out; omega
  have lc : 1 ≤ C.length := by rw [HC.out]; exact Mon.dec_pos _
  have la : A.length ≤ 11 := by rw [HA.out]; exact Mon.dec_len 10 _ (by omega)
  have lc2 : C.length ≤ 3 := by rw [HC.out]; exact Mon.dec_len 2 _ (by omega)
  have HT := Lib.hid ht
  clear ht h
  go_enter Tryd.func10, Tryd.ntmps10
  go_wp2_with fail
  refine HD.out.mono ?_
  rintro e _ ⟨rfl, rfl⟩
  go_wp2_with fail
  refine (I2.out _ HT.out).mono ?_
  rintro e W ⟨rfl, hb⟩
  have HT2 := Lib.hid (HT.out.below hb)
  go_wp2_with fail
  refine wp_region_grown (by kernel_rfl) (by kernel_rfl) ?_
  repeat (go_big_quiet_step ((go_at_call 23; with_reducible exact grown_of (I1.out _ (HT2.out.below (Grown.below _))))))
  refine wpQuiet_nil ?_
  rintro _ ⟨x, rfl⟩
  go_wp2
  go_ret2
  refine ⟨?_, hb.trans (x.below.mono hb.size)⟩
  show Ending.returned (.tuple #[.string ((⟨A.toArray⟩ : ByteArray) ++ ⟨#[46]⟩ ++ (⟨C.toArray⟩ : ByteArray).extract 1 C.length), .int .i64 0]) = _
  rw [cut_one]
  have e : (⟨A.toArray⟩ : ByteArray) ++ ⟨#[46]⟩ ++ ⟨(C.drop 1).toArray⟩ = ⟨(A ++ [46] ++ C.drop 1).toArray⟩ := by apply ByteArray.ext; simp
  rw [e]

theorem width_pos (s : ByteArray) (pos : Nat) (h : pos < s.size) : 1 ≤ (Utf8.decode s pos).2 := by
  by_cases ha : (s[pos]'h).toNat < 128
  · rw [decode_ascii s pos h ha]
    exact Nat.le_refl _
  · exact (decode_high s pos h (by omega)).2
/-- What the loop has read: if the text is plain, the value of its first bytes. -/
def ReadI (s : ByteArray) (pos : Nat) (a : Nat) : Prop := (∀ b ∈ s.data.toList, b.toNat < 128) → pos ≤ s.size ∧ a = Mon.digV (s.data.toList.take pos)
theorem ReadI.start (s : ByteArray) : ReadI s 0 0 := fun _ => ⟨Nat.zero_le _, by simp [Mon.digV]⟩
theorem get_mem (s : ByteArray) (pos : Nat) (h : pos < s.size) : (s[pos]'h) ∈ s.data.toList := by
  have : s[pos] = s.data.toList[pos]'h := rfl
  rw [this]; exact List.getElem_mem _
theorem ReadI.step {s : ByteArray} {pos a : Nat} (hI : ReadI s pos a) (h : pos < s.size) {a' : Nat}
    (hd : 48 ≤ (Utf8.decode s pos).1 ∧ (Utf8.decode s pos).1 ≤ 57 → a' = 10 * a + ((Utf8.decode s pos).1 - 48)) (hn : ¬ (48 ≤ (Utf8.decode s pos).1 ∧ (Utf8.decode s pos).1 ≤ 57) → a' = a) : ReadI s (pos + (Utf8.decode s pos).2) a' := by
  intro has
  obtain ⟨h1, h2⟩ := hI has
  have ha := has _ (get_mem s pos h)
  rw [decode_ascii s pos h ha] at hd hn ⊢
  refine ⟨by show pos + 1 ≤ s.size; omega, ?_⟩
  have e : s.data.toList.take (pos + 1) = s.data.toList.take pos ++ [s[pos]'h] := List.take_succ_eq_append_getElem (by exact h)
  rw [e, Mon.digV_snoc, ← h2]
  unfold Mon.dstep
  dsimp only at hd hn
  split
  · rename_i hh; exact hd hh
  · rename_i hh; exact hn hh
theorem ReadI.done {s : ByteArray} {pos a : Nat} (hI : ReadI s pos a) (h : ¬ pos < s.size) {n : Nat} (hs : s.data.toList = Mon.mtext n) : a = n := by
  obtain ⟨h1, h2⟩ := hI (by rw [hs]; exact Mon.mtext_ascii n)
  have e : pos = s.data.toList.length := by have : s.data.toList.length = s.size := rfl; omega
  rw [h2, e, List.take_length, hs, Mon.mtext_value]

/-- What Parse answers. -/
def parseN (s : ByteArray) : Int := if Mon.isText s.data.toList then (Mon.digV s.data.toList : Int) else 0
def parseE (s : ByteArray) : Int := if Mon.isText s.data.toList then 0 else 8
theorem parse_long {s : ByteArray} (h : 14 < s.size) : ¬ Mon.isText s.data.toList := by
  rintro ⟨h1, h2⟩
  have := (Mon.mtext_len _ h1).2
  rw [← h2] at this
  have e : s.data.toList.length = s.size := rfl
  omega

set_option maxRecDepth 100000 in
set_option maxHeartbeats 4000000 in
theorem parse_any (s : ByteArray) (hsz : s.size ≤ 9223372036854775807) (w : World) (ht : Tab w) :
    Calls Tryd.prog 12 #[.string s] w fun e w' => e = .returned (.tuple #[.int .i64 (parseN s), .int .i64 (parseE s)]) ∧ Below w.heap.size w w' := by
  by_cases hl : 14 < s.size
  · have e1 : parseN s = 0 := if_neg (parse_long hl)
    have e2 : parseE s = 8 := if_neg (parse_long hl)
    rw [e1, e2]
    clear e1 e2
    have hl' : (14 : Int) < s.size := by omega
    go_enter Tryd.func12, Tryd.ntmps12
    go_wp2
    go_ret2
    exact ⟨rfl, Below.refl _ _⟩
  have hl' : ¬ (14 : Int) < s.size := by omega
  have HT := Lib.hid ht
  obtain ⟨pn, Hpn⟩ : ∃ x, Hid (x = parseN s) := ⟨_, Lib.hid rfl⟩
  obtain ⟨pe, Hpe⟩ : ∃ x, Hid (x = parseE s) := ⟨_, Lib.hid rfl⟩
  rw [← Hpn.out, ← Hpe.out]
  clear ht
  go_enter Tryd.func12, Tryd.ntmps12
  go_wp2
  go_loopw [4] (fun v wr => ∃ (pos a : Nat), wr = w.iter s pos ∧ v = .int .i64 a ∧ a < 10 ^ (min pos 14) ∧ Hid (ReadI s pos a)) (fun _ wr => s.size - wr.iterPos w.heap.size)
  case atStart => exact ⟨0, 0, rfl, rfl, by decide, Lib.hid (ReadI.start s)⟩
  case round =>
    obtain ⟨pos, a, rfl, rfl, hb, HI⟩ := hrel
    by_cases hp : pos < s.size
    · have hnx : ∀ ty, (Instr.next (.pointer (some ⟨w.heap.size, 0, none⟩)) true ty).run Tryd.prog (w.iter s pos) = _ := fun ty => run_next_any w s pos ty hp
      have hwd := width_pos s pos hp
      have hle := decode_le s pos
      obtain ⟨r, Hr⟩ : ∃ r, Hid (r = (Utf8.decode s pos).1) := ⟨_, Lib.hid rfl⟩
      obtain ⟨d, Hd⟩ : ∃ d, Hid (d = (Utf8.decode s pos).2) := ⟨_, Lib.hid rfl⟩
      rw [← Hr.out, ← Hd.out] at hnx
      rw [← Hd.out] at hwd
      rw [← Hr.out] at hle
      have hb1 : a < 10000000000000 := Nat.lt_of_lt_of_le hb (by have : min pos 14 ≤ 13 := by omega
                                                                 exact Nat.pow_le_pow_right (by omega) this)
      have hpow : 10 ^ (min pos 14) * 10 ≤ 10 ^ (min (pos + d) 14) := by rw [← Nat.pow_succ]; exact Nat.pow_le_pow_right (by omega) (by omega)
      by_cases h48 : (48 : Int) ≤ r
      · by_cases h57 : (r : Int) ≤ 57
        · have q1 : IntKind.i32.wrap ((r : Int) - 48) = (r : Int) - 48 := by have e : ∀ n : Int, -2147483648 ≤ n → n ≤ 2147483647 → IntKind.i32.wrap n = n := fun n h1 h2 => by unfold IntKind.wrap; simp [IntKind.bits, IntKind.signed]; omega
                                                                             exact e _ (by omega) (by omega)
          go_wp2
          go_roundw
          case rel =>
            refine ⟨pos + d, 10 * a + (r - 48), rfl, by go_num, by omega, Lib.hid ?_⟩
            rw [Hd.out]
            exact HI.out.step hp (fun _ => by rw [← Hr.out]) (fun hh => absurd (by rw [← Hr.out]; omega) hh)
          case measure => simp; omega
        · go_wp2
          go_roundw
          case rel =>
            refine ⟨pos + d, a, rfl, rfl, by omega, Lib.hid ?_⟩
            rw [Hd.out]
            exact HI.out.step hp (fun hh => absurd hh (by rw [← Hr.out]; omega)) (fun _ => rfl)
          case measure => simp; omega
      · go_wp2
        go_roundw
        case rel =>
          refine ⟨pos + d, a, rfl, rfl, by omega, Lib.hid ?_⟩
          rw [Hd.out]
          exact HI.out.step hp (fun hh => absurd hh (by rw [← Hr.out]; omega)) (fun _ => rfl)
        case measure => simp; omega
    · have hnx : ∀ ty, (Instr.next (.pointer (some ⟨w.heap.size, 0, none⟩)) true ty).run Tryd.prog (w.iter s pos) = _ := fun ty => run_next_end w s pos ty hp
      have HW : Hid (Below w.heap.size w (w.iter s pos)) := Lib.hid ((Below.refl _ _).alloc (Nat.le_refl _) _)
      have HTi : Hid (Tab (w.iter s pos)) := Lib.hid (HT.out.below HW.out)
      by_cases ha : a ≤ 1000000000000
      · have HX : Hid (∀ W, Tab W → Calls Tryd.prog 10 #[.int .i64 a] W fun e w' => e = .returned (.tuple #[.string ⟨(Mon.mtext a).toArray⟩, .int .i64 0]) ∧ Below W.heap.size W w') := Lib.hid (fun W hW => text_yes a ha W hW)
        obtain ⟨T, HTt⟩ : ∃ T : ByteArray, Hid (T = ⟨(Mon.mtext a).toArray⟩) := ⟨_, Lib.hid rfl⟩
        rw [← HTt.out] at HX
        by_cases he : s = ⟨(Mon.mtext a).toArray⟩
        · have hx : Mon.isText s.data.toList ∧ Mon.digV s.data.toList = a := by
            rw [he]
            show Mon.isText (Mon.mtext a) ∧ Mon.digV (Mon.mtext a) = a
            exact ⟨Mon.isText_of a ha, Mon.mtext_value a⟩
          have HR : Hid (pn = a ∧ pe = 0) := Lib.hid (by rw [Hpn.out, Hpe.out]; unfold parseN parseE; rw [if_pos hx.1, if_pos hx.1, hx.2]; exact ⟨rfl, rfl⟩)
          clear hx
          have he0 : T = s := by rw [HTt.out, ← he]
          have he1 : (T.toList == s.toList) = true := by rw [he0]; exact beq_self_eq_true _
          clear he he0
          go_wp2_with fail
          refine (HX.out _ HTi.out).mono ?_
          rintro e W ⟨rfl, hb2⟩
          go_wp2
          go_ret2
          exact ⟨by rw [HR.out.1, HR.out.2] <;> rfl, HW.out.trans (hb2.mono HW.out.size)⟩
        · have HR : Hid (pn = 0 ∧ pe = 8) := Lib.hid (by
            have hx : ¬ Mon.isText s.data.toList := by
              rintro ⟨h1, h2⟩
              have := HI.out.done hp h2
              rw [← this] at h2
              exact he (by apply ByteArray.ext; apply Array.ext'; exact h2)
            rw [Hpn.out, Hpe.out]; unfold parseN parseE; rw [if_neg hx, if_neg hx]; exact ⟨rfl, rfl⟩)
          have he0 : ¬ T = s := by rw [HTt.out]; exact fun h => he h.symm
          have he1 : (T.toList == s.toList) = false := beq_eq_false_iff_ne.2 (by rw [ByteArray.toList_eq, ByteArray.toList_eq]; exact fun h => he0 (by apply ByteArray.ext; apply Array.ext'; exact h))
          clear he he0
          go_wp2_with fail
          refine (HX.out _ HTi.out).mono ?_
          rintro e W ⟨rfl, hb2⟩
          go_wp2
          go_ret2
          exact ⟨by rw [HR.out.1, HR.out.2] <;> rfl, HW.out.trans (hb2.mono HW.out.size)⟩
      · have HX : Hid (∀ W, Calls Tryd.prog 10 #[.int .i64 a] W fun e w' => e = .returned (.tuple #[.string ⟨#[]⟩, .int .i64 1]) ∧ W = w') := Lib.hid (fun W => text_no a (by omega) W)
        have HR : Hid (pn = 0 ∧ pe = 8) := Lib.hid (by
          have hx : ¬ Mon.isText s.data.toList := by
            rintro ⟨h1, h2⟩
            have := HI.out.done hp h2
            omega
          rw [Hpn.out, Hpe.out]; unfold parseN parseE; rw [if_neg hx, if_neg hx]; exact ⟨rfl, rfl⟩)
        go_wp2_with fail
        refine (HX.out _).mono ?_
        rintro e W ⟨rfl, rfl⟩
        go_wp2
        go_ret2
        exact ⟨by rw [HR.out.1, HR.out.2] <;> rfl, HW.out⟩

end Go.Proofs.YtijnnfioggjaeaaDoor
