/- The statement that the package's disk agrees with the reference's: its walk. -/
import Derived.Test.YtenddmcepfkbaaaDrfG
import Derived.Test.YtenddmcepfkbaaaDskTwo
namespace Go.Proofs.Ytenddmcepfkbaaa
open Go.RowKit

theorem survive_sane {D : Dsk.Dk} (h : Sane D) : Sane (Dsk.surviveD D) := by
  unfold Dsk.surviveD
  split
  · split
    · intro _; show 0 ≤ D.aft - 1; omega
    · unfold Dsk.fail
      split
      · exact h
      · intro hh; cases hh
  · exact h
theorem do_sane {n : Nat} {D : Dsk.Dk} (h : Sane D) (a : Ac) : Sane (doD n D a) := by
  unfold doD
  split
  · unfold Dsk.writeD
    split
    · exact h
    · split
      · exact survive_sane (D := Dsk.added D a.sector (textV a.odd a.text)) h
      · exact h
  · split
    · unfold Dsk.syncD
      split
      · exact h
      · split
        · exact survive_sane h
        · exact survive_sane h
    · split
      · unfold Dsk.fail
        split
        · exact h
        · intro hh; cases hh
      · split
        · intro hh; cases hh
        · split
          · unfold Dsk.armD
            split
            · exact h
            · intro hh
              exact of_decide_eq_true hh
          · split
            · unfold Dsk.rotD
              split
              · exact h
              · exact h
            · exact h
theorem run_sane {n : Nat} {D : Dsk.Dk} {l : List Ac} (h : Sane D) : Sane (runD n D l) := by
  unfold runD
  induction l generalizing D with
  | nil => exact h
  | cons a l ih => exact ih (do_sane h a)

/-- The package's disk and the reference's along a walk. -/
def StR (n : Nat) (W1 : World) (F : Nat → Prop) (W : World) (b bs : Nat) (D : Dsk.Dk) (c g gc : Nat) (E : Dsk.Dk) : Prop :=
  Only F W1 W ∧ ∃ pv pu, IsDisk n W b bs pv D ∧ IsRf n W c g gc pu E ∧ (∀ k, foot b bs pv k → F k ∨ W1.heap.size ≤ k) ∧ (∀ k, foot c g pu k → F k ∨ W1.heap.size ≤ k) ∧ ∀ k, foot b bs pv k → ¬ foot c g pu k
section
variable {n : Nat} {W1 W W' : World} {F : Nat → Prop} {b bs c g gc : Nat} {D D' E E' : Dsk.Dk}
theorem StR.below (h : StR n W1 F W b bs D c g gc E) (hb : Below W.heap.size W W') : StR n W1 F W' b bs D c g gc E := by
  obtain ⟨h0, pv, pu, h1, h2, h3, h4, h5⟩ := h
  exact ⟨h0.next (G := fun _ => False) (Only.of_below _ hb) (fun _ hh => hh.elim), pv, pu, h1.grown hb, h2.grown hb, h3, h4, h5⟩
theorem StR.run (h : StR n W1 F W b bs D c g gc E) {P : Program} {f : FuncId} {args : Array Value} {v : Value} (hc : ∀ pv, IsDisk n W b bs pv D → Calls P f args W fun e w' => e = .returned v ∧ Left n W b bs pv D' w') :
    Calls P f args W fun e w' => e = .returned v ∧ StR n W1 F w' b bs D' c g gc E := by
  obtain ⟨h0, pv, pu, h1, h2, h3, h4, h5⟩ := h
  refine (hc pv h1).mono fun e w' ⟨he, hl⟩ => ⟨he, ?_⟩
  obtain ⟨p2, o2, i2, q2⟩ := hl
  have hf : ∀ k, foot b bs p2 k → foot b bs pv k ∨ W.heap.size ≤ k := fun k hk => foot_of_left o2.size q2 hk
  refine ⟨h0.next o2 h3, p2, pu, i2, h2.far o2 (fun k hk hh => h5 k hh hk), fun k hk => ?_, h4, fun k hk hh => ?_⟩
  · rcases hf k hk with h | h
    · exact h3 k h
    · exact Or.inr (Nat.le_trans h0.size h)
  · rcases hf k hk with h | h
    · exact h5 k h hh
    · have := rfoot_lt h2 hh; omega
theorem StR.run2 (h : StR n W1 F W b bs D c g gc E) {P : Program} {f : FuncId} {args : Array Value} {v : Value} (hc : ∀ pu, IsRf n W c g gc pu E → Calls P f args W fun e w' => e = .returned v ∧ LeftR n W c g gc pu E' w') :
    Calls P f args W fun e w' => e = .returned v ∧ StR n W1 F w' b bs D c g gc E' := by
  obtain ⟨h0, pv, pu, h1, h2, h3, h4, h5⟩ := h
  refine (hc pu h2).mono fun e w' ⟨he, hl⟩ => ⟨he, ?_⟩
  obtain ⟨p2, o2, i2, q2⟩ := hl
  have hf : ∀ k, foot c g p2 k → foot c g pu k ∨ W.heap.size ≤ k := fun k hk => foot_of_left o2.size q2 hk
  refine ⟨h0.next o2 h4, pv, p2, h1.far o2 h5, i2, h3, fun k hk => ?_, fun k hk hh => ?_⟩
  · rcases hf k hk with h | h
    · exact h4 k h
    · exact Or.inr (Nat.le_trans h0.size h)
  · rcases hf k hh with h | h
    · exact h5 k hk h
    · have := foot_lt h1 hk; omega
theorem StR.new (h : St n W1 F W b bs D) (hb : Below W.heap.size W W') {pu : Value} (hi : IsRf n W' c g gc pu E) (hf : ∀ k, foot c g pu k → W.heap.size ≤ k) : StR n W1 F W' b bs D c g gc E := by
  obtain ⟨h0, pv, h1, h3⟩ := h
  refine ⟨h0.next (G := fun _ => False) (Only.of_below _ hb) (fun _ hh => hh.elim), pv, pu, h1.grown hb, hi, h3, fun k hk => Or.inr (Nat.le_trans h0.size (hf k hk)), fun k hk hh => ?_⟩
  have := foot_lt h1 hk
  have := hf k hh
  omega
theorem StR.toBelow {w0 : World} (h : StR n w0 (fun _ => False) W b bs D c g gc E) : Below w0.heap.size w0 W := h.1.below (Nat.le_refl _) (fun _ hh => hh.elim)
theorem StR.act (h : StR n W1 F W b bs D c g gc E) (a : Ac) (ht : a.text.size ≤ 100) {k : Nat} (hf : fits D k) (hk : k ≤ 1000) :
    Calls Try.prog 16 #[.pointer (some ⟨b, 0, none⟩), .agg #[.int .i64 a.kind, .int .i64 a.sector, .int .i64 a.byt, .string a.text, .bool a.odd, .int .i64 a.after]] W
      fun e w' => e = .returned (.tuple #[.string (doV n D a), .int .i64 (doE n D a)]) ∧ StR n W1 F w' b bs (doD n D a) c g gc E :=
  h.run fun _ hi => do_any hi a ht (by have := hf.2; omega) hf.1
theorem StR.act2 (h : StR n W1 F W b bs D c g gc E) (hs : Sane E) (a : Ac) (ht : a.text.size ≤ 100) {k : Nat} (hf : fits E k) (hk : k ≤ 1000) :
    Calls Try.prog 17 #[.pointer (some ⟨c, 0, none⟩), .agg #[.int .i64 a.kind, .int .i64 a.sector, .int .i64 a.byt, .string a.text, .bool a.odd, .int .i64 a.after]] W
      fun e w' => e = .returned (.tuple #[.string (doV n E a), .int .i64 (doE n E a)]) ∧ StR n W1 F w' b bs D c g gc (doD n E a) :=
  h.run2 fun _ hi => want_any hi hs a ht (by have := hf.2; omega) hf.1
theorem StR.look (h : StR n W1 F W b bs D c g gc E) (s : Int) :
    Calls Try.prog 18 #[.pointer (some ⟨b, 0, none⟩), .int .i64 s] W fun e w' => e = .returned (.tuple #[.string (Dsk.readV n D s), .int .i64 (Dsk.readE n D s)]) ∧ StR n W1 F w' b bs D c g gc E := by
  obtain ⟨_, pv, pu, h1, _⟩ := id h
  exact (read_any h1 s).mono fun e w' ⟨he, hb⟩ => ⟨he, h.below hb⟩
theorem StR.look2 (h : StR n W1 F W b bs D c g gc E) (s : Int) :
    Calls Try.prog 19 #[.pointer (some ⟨c, 0, none⟩), .int .i64 s] W fun e w' => e = .returned (.tuple #[.string (Dsk.readV n E s), .int .i64 (Dsk.readE n E s)]) ∧ StR n W1 F w' b bs D c g gc E := by
  obtain ⟨_, pv, pu, _, h2, _⟩ := id h
  exact (rread_below h2 s).mono fun e w' ⟨he, hb⟩ => ⟨he, h.below hb⟩
end

set_option maxRecDepth 100000 in
set_option maxHeartbeats 2000000 in
theorem lawMatches_skip (x0 p : Int) (l : List Ac) (hn : l.length ≤ 9223372036854775807) (hz : ∀ a ∈ l, acFine a) (ao : Option Addr) (cap : Nat) (hbad : okB l = false) (w : World) (hl : IsActs w ao l) :
    Calls Try.prog 3 #[.int .u8 x0, .int .i64 p, .slice ao l.length cap] w fun e w' => e = .returned (.bool true) ∧ Below w.heap.size w w' := by
  obtain ⟨L, HL⟩ : ∃ L, Hid (L = l.length) := ⟨_, Lib.hid rfl⟩
  have HAc := Lib.hid hl
  have HK : Hid (∀ W, IsActs W ao l → Calls Try.prog 12 #[.slice ao L cap] W fun e w' => e = .returned (.bool false) ∧ W = w') := Lib.hid fun W h => by
    have h1 := ok_any l hn (fun a ha => (hz a ha).1) ao cap W h
    rw [hbad] at h1
    rw [HL.out]; exact h1
  rw [← HL.out]
  clear hn hz hl hbad
  go_enter Try.func3, Try.ntmps3
  go_wp2_with fail
  refine (head46_any _).mono ?_
  rintro e v1 ⟨rfl, hb⟩
  have HB := Lib.hid hb
  clear hb
  go_wp2_with fail
  refine (HK.out _ (HAc.out.grown HB.out)).mono ?_
  rintro e _ ⟨rfl, rfl⟩
  go_wp2
  go_ret
  exact ⟨rfl, HB.out⟩

set_option maxRecDepth 100000 in
set_option maxHeartbeats 8000000 in
theorem lawMatches_main (x0 p : Int) (hx0 : 0 ≤ x0) (hx1 : x0 ≤ 255) (n : Nat) (hnx : 1 + x0 % 12 = (n : Int)) (l : List Ac) (hz : ∀ a ∈ l, acFine a) (ao : Option Addr) (cap : Nat) (hk1 : okB l = true) (hcase : p < 1 ∨ (¬ p < 1 ∧ 8000 < p) ∨ (¬ p < 1 ∧ ¬ 8000 < p)) (w : World) (hl : IsActs w ao l) :
    Calls Try.prog 3 #[.int .u8 x0, .int .i64 p, .slice ao l.length cap] w fun e w' => e = .returned (.bool true) ∧ Below w.heap.size w w' := by
  have HN : Hid (1 ≤ n ∧ n ≤ 12) := Lib.hid ⟨by omega, by omega⟩
  obtain ⟨L, HL⟩ : ∃ L, Hid (L = l.length) := ⟨_, Lib.hid rfl⟩
  have HAc := Lib.hid hl
  have HK : Hid (∀ W, IsActs W ao l → Calls Try.prog 12 #[.slice ao L cap] W fun e w' => e = .returned (.bool true) ∧ W = w') := Lib.hid fun W h => by
    have h1 := ok_any l (by have := (okB_iff.1 hk1).2; omega) (fun a ha => (hz a ha).1) ao cap W h
    rw [hk1] at h1
    rw [HL.out]; exact h1
  have HSz : Hid (∀ W, Calls Try.prog 14 #[.int .u8 x0] W fun e w' => e = .returned (.int .i64 (n : Int)) ∧ W = w') := Lib.hid fun W => by
    have := size_any x0 hx0 hx1 W
    rw [hnx] at this
    exact this
  have Hok := Lib.hid (okB_iff.1 hk1)
  have HZ := Lib.hid hz
  have hL60 : (L : Int) ≤ 60 := by have := Hok.out.2; have := HL.out; omega
  have hn12 : (n : Int) ≤ 12 := by omega
  rw [← HL.out]
  clear hz hl hk1 hx0 hx1 hnx
  go_enter Try.func3, Try.ntmps3
  go_wp2_with fail
  refine (head46_any _).mono ?_
  rintro e v1 ⟨rfl, hb⟩
  have HB := Lib.hid hb
  clear hb
  go_wp2_with fail
  refine (HK.out _ (HAc.out.grown HB.out)).mono ?_
  rintro e _ ⟨rfl, rfl⟩
  go_wp2_with fail
  rcases hcase with hc | ⟨hc, hc2⟩ | ⟨hc, hc2⟩
  · refine (new_no p (Or.inl hc) _).mono ?_
    rintro e _ ⟨rfl, rfl⟩
    go_wp2_with fail
    refine (HSz.out _).mono ?_
    rintro e _ ⟨rfl, rfl⟩
    go_wp2_with fail
    refine (new_any n HN.out.1 (by have := HN.out.2; omega) _).mono ?_
    rintro e v2 ⟨b, rfl, hb, hbn, bs, hbsn, hi⟩
    have HS0 : Hid (St n w (fun _ => False) v2 b bs (Dsk.zero n)) := Lib.hid (St.new (below_step HB.out hb) hi (fun j hj => Nat.le_trans HB.out.size (new_foot hbn hbsn j hj)))
    clear hb hbn hbsn hi
    go_wp2_with fail
    refine (HSz.out _).mono ?_
    rintro e _ ⟨rfl, rfl⟩
    go_wp2_with fail
    refine (rnew_any n HN.out.1 (by have := HN.out.2; omega) _).mono ?_
    rintro e v3 ⟨c, rfl, hb, hbn, g, gc, hbsn, hi⟩
    have HS1 : Hid (StR n w (fun _ => False) v3 b bs (Dsk.zero n) c g gc (Dsk.zero n)) := Lib.hid (StR.new HS0.out hb hi (new_foot hbn hbsn))
    clear hb hbn hbsn hi
    go_wp2
    go_loopw [10] (fun i wr => ∃ j : Nat, j ≤ L ∧ i = .int .i64 j ∧ Hid (StR n w (fun _ => False) wr b bs (runD n (Dsk.zero n) (l.take j)) c g gc (runD n (Dsk.zero n) (l.take j)))) (fun i _ => L - (intOf i).toNat)
    case atStart => exact ⟨0, by omega, rfl, HS1⟩
    case round =>
      obtain ⟨j, hj, rfl, HS⟩ := hrel
      by_cases hlt : j < L
      · have hjl : j < l.length := by rw [← HL.out]; exact hlt
        have hlt' : (j : Int) < L := by omega
        obtain ⟨bk, off, rfl, hbk, hact⟩ := HAc.out.at hjl
        obtain ⟨a, Ha⟩ : ∃ a, Hid (a = l[j]) := ⟨_, Lib.hid rfl⟩
        rw [← Ha.out] at hact
        have HAct := Lib.hid hact
        have hat : a.text.size ≤ 100 := by rw [Ha.out]; exact Hok.out.1 _ (List.getElem_mem _)
        have HTt := Lib.hid hat
        have HFt : Hid (fits (runD n (Dsk.zero n) (l.take j)) (l.take j).length ∧ (l.take j).length ≤ 1000) := Lib.hid ⟨run_fits (fun c hc => HZ.out c (List.mem_of_mem_take hc)) (zero_fits n), by rw [List.length_take]; omega⟩
        have HSa : Hid (Sane (runD n (Dsk.zero n) (l.take j))) := Lib.hid (run_sane (fun hh => by cases hh))
        obtain ⟨x1, x2, x3, x4, x5, x6⟩ := HAct.out.below HS.out.toBelow hbk
        obtain ⟨V, HV⟩ : ∃ V, Hid (V = doV n (runD n (Dsk.zero n) (l.take j)) a) := ⟨_, Lib.hid rfl⟩
        obtain ⟨X, HX⟩ : ∃ X, Hid (X = doE n (runD n (Dsk.zero n) (l.take j)) a) := ⟨_, Lib.hid rfl⟩
        have HC1 := Lib.hid (HS.out.act a HTt.out HFt.out.1 HFt.out.2)
        rw [← HV.out, ← HX.out] at HC1
        have hq : (V.toList == V.toList) = true := by simp
        have hq2 : (X == X) = true := by simp
        clear hact hat
        go_wp2_with fail
        refine HC1.out.mono ?_
        rintro e wn ⟨rfl, hs⟩
        have HSn := Lib.hid hs
        clear hs x1 x2 x3 x4 x5 x6 HC1
        obtain ⟨x1, x2, x3, x4, x5, x6⟩ := HAct.out.below HSn.out.toBelow hbk
        have HC2 := Lib.hid (HSn.out.act2 HSa.out a HTt.out HFt.out.1 HFt.out.2)
        rw [← HV.out, ← HX.out] at HC2
        go_wp2_with fail
        refine HC2.out.mono ?_
        rintro e wm ⟨rfl, hs⟩
        have HSm := Lib.hid hs
        clear hs x1 x2 x3 x4 x5 x6
        go_wp2
        go_roundw
        case rel => exact ⟨j + 1, by omega, by go_num, Lib.hid (by rw [runD_take hjl, ← Ha.out]; exact HSm.out)⟩
        case measure => simp [intOf]; omega
      · obtain rfl : L = j := by omega
        obtain ⟨D1, HD1⟩ : ∃ D1, Hid (D1 = runD n (Dsk.zero n) (l.take L)) := ⟨_, Lib.hid rfl⟩
        rw [← HD1.out] at HS
        go_wp2
        obtain ⟨wo, rfl⟩ : ∃ x, x = wr := ⟨_, rfl⟩
        go_loopw [15] (fun i wr => ∃ j : Nat, j ≤ n ∧ i = .int .i64 j ∧ Hid (StR n w (fun _ => False) wr b bs D1 c g gc D1)) (fun i _ => n - (intOf i).toNat)
        case atStart => exact ⟨0, by omega, rfl, HS⟩
        case round =>
          obtain ⟨j, hj, rfl, HS⟩ := hrel
          obtain ⟨V, HV⟩ : ∃ V, Hid (V = Dsk.readV n D1 j) := ⟨_, Lib.hid rfl⟩
          obtain ⟨X, HX⟩ : ∃ X, Hid (X = Dsk.readE n D1 j) := ⟨_, Lib.hid rfl⟩
          have hq : (V.toList == V.toList) = true := by simp
          have hq2 : (X == X) = true := by simp
          by_cases hlt : j < n
          · have hlt' : (j : Int) < n := by omega
            go_wp2_with fail
            refine (HSz.out _).mono ?_
            rintro e _ ⟨rfl, rfl⟩
            have HC1 := Lib.hid (HS.out.look (j : Int))
            rw [← HV.out, ← HX.out] at HC1
            go_wp2_with fail
            refine HC1.out.mono ?_
            rintro e wn ⟨rfl, hs⟩
            have HSn := Lib.hid hs
            clear hs HC1
            have HC2 := Lib.hid (HSn.out.look2 (j : Int))
            rw [← HV.out, ← HX.out] at HC2
            go_wp2_with fail
            refine HC2.out.mono ?_
            rintro e wm ⟨rfl, hs⟩
            have HSm := Lib.hid hs
            clear hs
            go_wp2
            go_roundw
            case rel => exact ⟨j + 1, by omega, by go_num, HSm⟩
            case measure => simp [intOf]; omega
          · have hlt' : ¬ (j : Int) < n := by omega
            go_wp2_with fail
            refine (HSz.out _).mono ?_
            rintro e _ ⟨rfl, rfl⟩
            go_wp2
            go_ret
            exact ⟨rfl, HS.out.toBelow⟩
  · refine (new_no p (Or.inr hc2) _).mono ?_
    rintro e _ ⟨rfl, rfl⟩
    go_wp2_with fail
    refine (HSz.out _).mono ?_
    rintro e _ ⟨rfl, rfl⟩
    go_wp2_with fail
    refine (new_any n HN.out.1 (by have := HN.out.2; omega) _).mono ?_
    rintro e v2 ⟨b, rfl, hb, hbn, bs, hbsn, hi⟩
    have HS0 : Hid (St n w (fun _ => False) v2 b bs (Dsk.zero n)) := Lib.hid (St.new (below_step HB.out hb) hi (fun j hj => Nat.le_trans HB.out.size (new_foot hbn hbsn j hj)))
    clear hb hbn hbsn hi
    go_wp2_with fail
    refine (HSz.out _).mono ?_
    rintro e _ ⟨rfl, rfl⟩
    go_wp2_with fail
    refine (rnew_any n HN.out.1 (by have := HN.out.2; omega) _).mono ?_
    rintro e v3 ⟨c, rfl, hb, hbn, g, gc, hbsn, hi⟩
    have HS1 : Hid (StR n w (fun _ => False) v3 b bs (Dsk.zero n) c g gc (Dsk.zero n)) := Lib.hid (StR.new HS0.out hb hi (new_foot hbn hbsn))
    clear hb hbn hbsn hi
    go_wp2
    go_loopw [10] (fun i wr => ∃ j : Nat, j ≤ L ∧ i = .int .i64 j ∧ Hid (StR n w (fun _ => False) wr b bs (runD n (Dsk.zero n) (l.take j)) c g gc (runD n (Dsk.zero n) (l.take j)))) (fun i _ => L - (intOf i).toNat)
    case atStart => exact ⟨0, by omega, rfl, HS1⟩
    case round =>
      obtain ⟨j, hj, rfl, HS⟩ := hrel
      by_cases hlt : j < L
      · have hjl : j < l.length := by rw [← HL.out]; exact hlt
        have hlt' : (j : Int) < L := by omega
        obtain ⟨bk, off, rfl, hbk, hact⟩ := HAc.out.at hjl
        obtain ⟨a, Ha⟩ : ∃ a, Hid (a = l[j]) := ⟨_, Lib.hid rfl⟩
        rw [← Ha.out] at hact
        have HAct := Lib.hid hact
        have hat : a.text.size ≤ 100 := by rw [Ha.out]; exact Hok.out.1 _ (List.getElem_mem _)
        have HTt := Lib.hid hat
        have HFt : Hid (fits (runD n (Dsk.zero n) (l.take j)) (l.take j).length ∧ (l.take j).length ≤ 1000) := Lib.hid ⟨run_fits (fun c hc => HZ.out c (List.mem_of_mem_take hc)) (zero_fits n), by rw [List.length_take]; omega⟩
        have HSa : Hid (Sane (runD n (Dsk.zero n) (l.take j))) := Lib.hid (run_sane (fun hh => by cases hh))
        obtain ⟨x1, x2, x3, x4, x5, x6⟩ := HAct.out.below HS.out.toBelow hbk
        obtain ⟨V, HV⟩ : ∃ V, Hid (V = doV n (runD n (Dsk.zero n) (l.take j)) a) := ⟨_, Lib.hid rfl⟩
        obtain ⟨X, HX⟩ : ∃ X, Hid (X = doE n (runD n (Dsk.zero n) (l.take j)) a) := ⟨_, Lib.hid rfl⟩
        have HC1 := Lib.hid (HS.out.act a HTt.out HFt.out.1 HFt.out.2)
        rw [← HV.out, ← HX.out] at HC1
        have hq : (V.toList == V.toList) = true := by simp
        have hq2 : (X == X) = true := by simp
        clear hact hat
        go_wp2_with fail
        refine HC1.out.mono ?_
        rintro e wn ⟨rfl, hs⟩
        have HSn := Lib.hid hs
        clear hs x1 x2 x3 x4 x5 x6 HC1
        obtain ⟨x1, x2, x3, x4, x5, x6⟩ := HAct.out.below HSn.out.toBelow hbk
        have HC2 := Lib.hid (HSn.out.act2 HSa.out a HTt.out HFt.out.1 HFt.out.2)
        rw [← HV.out, ← HX.out] at HC2
        go_wp2_with fail
        refine HC2.out.mono ?_
        rintro e wm ⟨rfl, hs⟩
        have HSm := Lib.hid hs
        clear hs x1 x2 x3 x4 x5 x6
        go_wp2
        go_roundw
        case rel => exact ⟨j + 1, by omega, by go_num, Lib.hid (by rw [runD_take hjl, ← Ha.out]; exact HSm.out)⟩
        case measure => simp [intOf]; omega
      · obtain rfl : L = j := by omega
        obtain ⟨D1, HD1⟩ : ∃ D1, Hid (D1 = runD n (Dsk.zero n) (l.take L)) := ⟨_, Lib.hid rfl⟩
        rw [← HD1.out] at HS
        go_wp2
        obtain ⟨wo, rfl⟩ : ∃ x, x = wr := ⟨_, rfl⟩
        go_loopw [15] (fun i wr => ∃ j : Nat, j ≤ n ∧ i = .int .i64 j ∧ Hid (StR n w (fun _ => False) wr b bs D1 c g gc D1)) (fun i _ => n - (intOf i).toNat)
        case atStart => exact ⟨0, by omega, rfl, HS⟩
        case round =>
          obtain ⟨j, hj, rfl, HS⟩ := hrel
          obtain ⟨V, HV⟩ : ∃ V, Hid (V = Dsk.readV n D1 j) := ⟨_, Lib.hid rfl⟩
          obtain ⟨X, HX⟩ : ∃ X, Hid (X = Dsk.readE n D1 j) := ⟨_, Lib.hid rfl⟩
          have hq : (V.toList == V.toList) = true := by simp
          have hq2 : (X == X) = true := by simp
          by_cases hlt : j < n
          · have hlt' : (j : Int) < n := by omega
            go_wp2_with fail
            refine (HSz.out _).mono ?_
            rintro e _ ⟨rfl, rfl⟩
            have HC1 := Lib.hid (HS.out.look (j : Int))
            rw [← HV.out, ← HX.out] at HC1
            go_wp2_with fail
            refine HC1.out.mono ?_
            rintro e wn ⟨rfl, hs⟩
            have HSn := Lib.hid hs
            clear hs HC1
            have HC2 := Lib.hid (HSn.out.look2 (j : Int))
            rw [← HV.out, ← HX.out] at HC2
            go_wp2_with fail
            refine HC2.out.mono ?_
            rintro e wm ⟨rfl, hs⟩
            have HSm := Lib.hid hs
            clear hs
            go_wp2
            go_roundw
            case rel => exact ⟨j + 1, by omega, by go_num, HSm⟩
            case measure => simp [intOf]; omega
          · have hlt' : ¬ (j : Int) < n := by omega
            go_wp2_with fail
            refine (HSz.out _).mono ?_
            rintro e _ ⟨rfl, rfl⟩
            go_wp2
            go_ret
            exact ⟨rfl, HS.out.toBelow⟩
  · obtain ⟨m, rfl⟩ : ∃ m : Nat, p = m := ⟨p.toNat, by omega⟩
    refine (new_any m (by omega) (by omega) _).mono ?_
    rintro e v1' ⟨b0, rfl, hb, -⟩
    replace HB := Lib.hid (below_step HB.out hb)
    clear hb
    go_wp2_with fail
    refine (HSz.out _).mono ?_
    rintro e _ ⟨rfl, rfl⟩
    go_wp2_with fail
    refine (new_any n HN.out.1 (by have := HN.out.2; omega) _).mono ?_
    rintro e v2 ⟨b, rfl, hb, hbn, bs, hbsn, hi⟩
    have HS0 : Hid (St n w (fun _ => False) v2 b bs (Dsk.zero n)) := Lib.hid (St.new (below_step HB.out hb) hi (fun j hj => Nat.le_trans HB.out.size (new_foot hbn hbsn j hj)))
    clear hb hbn hbsn hi
    go_wp2_with fail
    refine (HSz.out _).mono ?_
    rintro e _ ⟨rfl, rfl⟩
    go_wp2_with fail
    refine (rnew_any n HN.out.1 (by have := HN.out.2; omega) _).mono ?_
    rintro e v3 ⟨c, rfl, hb, hbn, g, gc, hbsn, hi⟩
    have HS1 : Hid (StR n w (fun _ => False) v3 b bs (Dsk.zero n) c g gc (Dsk.zero n)) := Lib.hid (StR.new HS0.out hb hi (new_foot hbn hbsn))
    clear hb hbn hbsn hi
    go_wp2
    go_loopw [10] (fun i wr => ∃ j : Nat, j ≤ L ∧ i = .int .i64 j ∧ Hid (StR n w (fun _ => False) wr b bs (runD n (Dsk.zero n) (l.take j)) c g gc (runD n (Dsk.zero n) (l.take j)))) (fun i _ => L - (intOf i).toNat)
    case atStart => exact ⟨0, by omega, rfl, HS1⟩
    case round =>
      obtain ⟨j, hj, rfl, HS⟩ := hrel
      by_cases hlt : j < L
      · have hjl : j < l.length := by rw [← HL.out]; exact hlt
        have hlt' : (j : Int) < L := by omega
        obtain ⟨bk, off, rfl, hbk, hact⟩ := HAc.out.at hjl
        obtain ⟨a, Ha⟩ : ∃ a, Hid (a = l[j]) := ⟨_, Lib.hid rfl⟩
        rw [← Ha.out] at hact
        have HAct := Lib.hid hact
        have hat : a.text.size ≤ 100 := by rw [Ha.out]; exact Hok.out.1 _ (List.getElem_mem _)
        have HTt := Lib.hid hat
        have HFt : Hid (fits (runD n (Dsk.zero n) (l.take j)) (l.take j).length ∧ (l.take j).length ≤ 1000) := Lib.hid ⟨run_fits (fun c hc => HZ.out c (List.mem_of_mem_take hc)) (zero_fits n), by rw [List.length_take]; omega⟩
        have HSa : Hid (Sane (runD n (Dsk.zero n) (l.take j))) := Lib.hid (run_sane (fun hh => by cases hh))
        obtain ⟨x1, x2, x3, x4, x5, x6⟩ := HAct.out.below HS.out.toBelow hbk
        obtain ⟨V, HV⟩ : ∃ V, Hid (V = doV n (runD n (Dsk.zero n) (l.take j)) a) := ⟨_, Lib.hid rfl⟩
        obtain ⟨X, HX⟩ : ∃ X, Hid (X = doE n (runD n (Dsk.zero n) (l.take j)) a) := ⟨_, Lib.hid rfl⟩
        have HC1 := Lib.hid (HS.out.act a HTt.out HFt.out.1 HFt.out.2)
        rw [← HV.out, ← HX.out] at HC1
        have hq : (V.toList == V.toList) = true := by simp
        have hq2 : (X == X) = true := by simp
        clear hact hat
        go_wp2_with fail
        refine HC1.out.mono ?_
        rintro e wn ⟨rfl, hs⟩
        have HSn := Lib.hid hs
        clear hs x1 x2 x3 x4 x5 x6 HC1
        obtain ⟨x1, x2, x3, x4, x5, x6⟩ := HAct.out.below HSn.out.toBelow hbk
        have HC2 := Lib.hid (HSn.out.act2 HSa.out a HTt.out HFt.out.1 HFt.out.2)
        rw [← HV.out, ← HX.out] at HC2
        go_wp2_with fail
        refine HC2.out.mono ?_
        rintro e wm ⟨rfl, hs⟩
        have HSm := Lib.hid hs
        clear hs x1 x2 x3 x4 x5 x6
        go_wp2
        go_roundw
        case rel => exact ⟨j + 1, by omega, by go_num, Lib.hid (by rw [runD_take hjl, ← Ha.out]; exact HSm.out)⟩
        case measure => simp [intOf]; omega
      · obtain rfl : L = j := by omega
        obtain ⟨D1, HD1⟩ : ∃ D1, Hid (D1 = runD n (Dsk.zero n) (l.take L)) := ⟨_, Lib.hid rfl⟩
        rw [← HD1.out] at HS
        go_wp2
        obtain ⟨wo, rfl⟩ : ∃ x, x = wr := ⟨_, rfl⟩
        go_loopw [15] (fun i wr => ∃ j : Nat, j ≤ n ∧ i = .int .i64 j ∧ Hid (StR n w (fun _ => False) wr b bs D1 c g gc D1)) (fun i _ => n - (intOf i).toNat)
        case atStart => exact ⟨0, by omega, rfl, HS⟩
        case round =>
          obtain ⟨j, hj, rfl, HS⟩ := hrel
          obtain ⟨V, HV⟩ : ∃ V, Hid (V = Dsk.readV n D1 j) := ⟨_, Lib.hid rfl⟩
          obtain ⟨X, HX⟩ : ∃ X, Hid (X = Dsk.readE n D1 j) := ⟨_, Lib.hid rfl⟩
          have hq : (V.toList == V.toList) = true := by simp
          have hq2 : (X == X) = true := by simp
          by_cases hlt : j < n
          · have hlt' : (j : Int) < n := by omega
            go_wp2_with fail
            refine (HSz.out _).mono ?_
            rintro e _ ⟨rfl, rfl⟩
            have HC1 := Lib.hid (HS.out.look (j : Int))
            rw [← HV.out, ← HX.out] at HC1
            go_wp2_with fail
            refine HC1.out.mono ?_
            rintro e wn ⟨rfl, hs⟩
            have HSn := Lib.hid hs
            clear hs HC1
            have HC2 := Lib.hid (HSn.out.look2 (j : Int))
            rw [← HV.out, ← HX.out] at HC2
            go_wp2_with fail
            refine HC2.out.mono ?_
            rintro e wm ⟨rfl, hs⟩
            have HSm := Lib.hid hs
            clear hs
            go_wp2
            go_roundw
            case rel => exact ⟨j + 1, by omega, by go_num, HSm⟩
            case measure => simp [intOf]; omega
          · have hlt' : ¬ (j : Int) < n := by omega
            go_wp2_with fail
            refine (HSz.out _).mono ?_
            rintro e _ ⟨rfl, rfl⟩
            go_wp2
            go_ret
            exact ⟨rfl, HS.out.toBelow⟩

theorem lawMatches_any (x0 : Int) (hx0 : 0 ≤ x0) (hx1 : x0 ≤ 255) (p : Int) (l : List Ac) (hn : l.length ≤ 9223372036854775807) (hz : ∀ a ∈ l, acFine a) (ao : Option Addr) (cap : Nat) (w : World) (hl : IsActs w ao l) :
    Calls Try.prog 3 #[.int .u8 x0, .int .i64 p, .slice ao l.length cap] w fun e w' => e = .returned (.bool true) ∧ Below w.heap.size w w' := by
  cases h1 : okB l
  · exact lawMatches_skip x0 p l hn hz ao cap h1 w hl
  · obtain ⟨n, hn2⟩ : ∃ n : Nat, 1 + x0 % 12 = n := ⟨(1 + x0 % 12).toNat, by omega⟩
    exact lawMatches_main x0 p hx0 hx1 n hn2 l hz ao cap h1 (by omega) w hl

end Go.Proofs.Ytenddmcepfkbaaa
