/- fleet.Valid: what a true answer says. -/
import Derived.Test.YtapjnbofhdljfaaFltPlaces
import Derived.Sort.Walk0
namespace Go.Proofs.Ytapjnbofhdljfaa
open Go.RowKit Go.Maps Go.WideMaps
open Cat

def LtN (a b : Prt) : Prop := Op.bytesLess a.name.toList b.name.toList = true
theorem LtN.trans {a b c : Prt} (h : LtN a b) (k : LtN b c) : LtN a c := by
  unfold LtN at *
  rw [Proofs.bytesLess_eq, decide_eq_true_iff] at *
  exact List.lt_trans h k
theorem LtN.ne {a b : Prt} (h : LtN a b) : a.name ≠ b.name := fun e => by
  unfold LtN at h
  rw [e, Proofs.bytesLess_eq, decide_eq_true_iff] at h
  exact List.lt_irrefl _ h
structure GoodState (c : List Knd) (s : List Prt) : Prop where
  cat : GoodCat c
  rising : s.Pairwise LtN
  named : ∀ p ∈ s, NamedPrt p
  placed : Placed c s s
theorem rising_next {s : List Prt} {k : Nat} (hk : k < s.length) (h : (s.take k).Pairwise LtN) (hp : ∀ j, j + 1 = k → ∀ hj : j < s.length, LtN s[j] s[k]) : (s.take (k + 1)).Pairwise LtN := by
  rw [← List.take_append_getElem hk]
  refine List.pairwise_append.2 ⟨h, List.pairwise_singleton _ _, fun a ha b hb => ?_⟩
  rw [List.mem_singleton.1 hb]
  obtain ⟨i, hi, rfl⟩ := List.mem_take_iff_getElem.1 ha
  by_cases e : i + 1 = k
  · exact hp i e (by omega)
  · have h1 := hp (k - 1) (by omega) (by omega)
    refine LtN.trans ?_ h1
    have := List.pairwise_iff_getElem.1 h i (k - 1) (by rw [List.length_take]; omega) (by rw [List.length_take]; omega) (by omega)
    simpa using this
theorem named_next {l : List Prt} {k : Nat} (hk : k < l.length) (h : ∀ s ∈ l.take k, NamedPrt s) (hq : NamedPrt l[k]) : ∀ s ∈ l.take (k + 1), NamedPrt s := fun s hs => by
  rw [← List.take_append_getElem hk] at hs
  rcases List.mem_append.1 hs with hs | hs
  · exact h s hs
  · rw [List.mem_singleton.1 hs]; exact hq

set_option maxRecDepth 100000 in
set_option maxHeartbeats 8000000 in
theorem valid_any (co : Option Addr) (c : List Knd) (cc : Nat) (so : Option Addr) (s : List Prt) (sc : Nat) (hl : c.length ≤ 9223372036854775807) (hls : s.length ≤ 1000000) (hcz : ∀ k ∈ c, SzKnd k) (hsz : ∀ p ∈ s, SzPrt p) (W : World) (hi : IsL 3 ElKnd W co c) (hs : IsL 14 ElPrt W so s) :
    Calls Try.prog 16 #[.agg #[.slice co c.length cc], .agg #[.slice so s.length sc]] W (YesNo (GoodState c s) W) := by
  have HI := Lib.hid hs
  have HSZ := Lib.hid hsz
  have HCv := Lib.hid (fun (w : World) (hw : Below W.heap.size W w) => catValid_any co c cc hl hcz w (hi.below stKnd hw))
  have HVp := Lib.hid (fun (p : Prt) (po : Option Addr) (pc : Nat) (h1 : SzPrt p) (h2 : p.props.length ≤ 9223372036854775807) (w : World) (hw : Below W.heap.size W w) (hp : IsL 2 ElPrp w po p.props) => validPart_any co c cc p po pc hl h1 h2 w (hi.below stKnd hw) hp)
  have HPl := Lib.hid (fun (w : World) (hw : Below W.heap.size W w) => places_any co c cc so s sc hl hls hsz w (hi.below stKnd hw) (hs.below stPrt hw))
  have HSp := Lib.hid part_size
  clear hi hs hsz hcz
  obtain ⟨n, Hn⟩ : ∃ n, Hid (n = s.length) := ⟨_, Lib.hid rfl⟩
  rw [← Hn.out] at hls HPl ⊢
  obtain ⟨cn, Hcn⟩ : ∃ n, Hid (n = c.length) := ⟨_, Lib.hid rfl⟩
  rw [← Hcn.out] at HCv HVp HPl ⊢
  obtain ⟨N, HN⟩ : ∃ N, Hid (N = W.heap.size) := ⟨_, Lib.hid rfl⟩
  obtain ⟨V0, HV0⟩ : ∃ w, Hid (w = (W.alloc (.cells #[.slice co cn cc] 24)).alloc (.cells #[.slice so n sc] 28)) := ⟨_, Lib.hid rfl⟩
  have HB0 : Hid (Below W.heap.size W V0) := Lib.hid (by rw [HV0.out]; exact below_alloc ((Below.refl _ _).alloc (Nat.le_refl _) _) _)
  have hN2 : V0.heap.size = N + 1 + 1 := by rw [HV0.out, size_alloc, size_alloc, HN.out]
  have HN2 := Lib.hid hN2
  clear hN2
  have v0 : V0.cell? ⟨N, 0, none⟩ = some (.slice co cn cc) := by rw [HV0.out, HN.out]; go_simp
  have v1 : V0.cell? ⟨N + 1, 0, none⟩ = some (.slice so n sc) := by rw [HV0.out, HN.out]; go_simp
  have Hv0 := Lib.hid v0
  have Hv1 := Lib.hid v1
  clear v0 v1
  go_enter Try.func16, Try.ntmps16
  go_wp2_with fail
  rw [← HV0.out, ← HN.out]
  refine (HCv.out V0 HB0.out).mono ?_
  rintro e w1 ⟨x1, rfl, hgc, hb⟩
  have HGc := Lib.hid hgc
  have HB1 := Lib.hid hb
  clear hb hgc
  cases x1 with
  | false =>
    go_wp2_with fail
    go_ret
    exact YesNo.no (below_step HB0.out HB1.out)
  | true =>
  have v1 := (cellB HB1.out (by rw [HN2.out]; omega)).trans Hv1.out
  by_cases h2 : 20000 < n
  · have d1 : decide ((20000 : Int) < n) = true := decide_eq_true (by omega)
    go_wp2_with fail
    go_ret
    exact YesNo.no (below_step HB0.out HB1.out)
  have d1 : decide ((20000 : Int) < n) = false := decide_eq_false (by omega)
  go_wp2_with fail
  clear d1 v1
  go_loopw [19] (fun i wr => ∃ k : Nat, k ≤ n ∧ i = .int .i64 k ∧ Hid (Below V0.heap.size V0 wr ∧ (s.take k).Pairwise LtN ∧ ∀ p ∈ s.take k, NamedPrt p)) (fun i _ => n - (intOf i).toNat)
  case atStart => exact ⟨0, Nat.zero_le _, by go_num, Lib.hid ⟨HB1.out, by rw [List.take_zero]; exact List.Pairwise.nil, by simp⟩⟩
  case round =>
    obtain ⟨k, hk, rfl, HR⟩ := hrel
    have HBr := Lib.hid (below_step HB0.out HR.out.1)
    by_cases hkn : k < n
    · have hd : decide ((k : Int) < n) = true := decide_eq_true (by omega)
      have hb0 : (0 : Int) ≤ k := by omega
      have hb1 : (k : Int) < n := by omega
      have hkl : k < s.length := by rw [← Hn.out]; exact hkn
      obtain ⟨bk, off, cs, rfl, hbk, hrg, po, pc, rfl, hpr, hp9⟩ := HI.out.at hkl
      obtain ⟨p, Hp⟩ : ∃ m, Hid (m = s[k]) := ⟨_, Lib.hid rfl⟩
      have hpz : SzPrt p := by rw [Hp.out]; exact HSZ.out _ (List.getElem_mem hkl)
      rw [← Hp.out] at hrg hpr hp9
      obtain ⟨U, HU⟩ : ∃ w, Hid (w = wr.alloc (.cells (ptC p (.slice po p.props.length pc)).toArray 45)) := ⟨_, Lib.hid rfl⟩
      have HBU : Hid (Below wr.heap.size wr U) := Lib.hid (by rw [HU.out]; exact (Below.refl _ _).alloc (Nat.le_refl _) _)
      have HBVU := Lib.hid (below_step HR.out.1 HBU.out)
      have HVq := Lib.hid (fun X : Grown U => HVp.out p po pc hpz hp9 X.w (below_step HB0.out (below_step HBVU.out X.below)) (hpr.below stPrp (below_step HB0.out (below_step HBVU.out X.below))))
      obtain ⟨pn, Hpn⟩ : ∃ m, Hid (m = p.props.length) := ⟨_, Lib.hid rfl⟩
      rw [← Hpn.out] at hrg HU HVq
      have HRg := Lib.hid (rangeB hrg hbk HBr.out)
      have HOne := Lib.hid (ptC_one p po pn pc)
      obtain ⟨g, Hg⟩ : ∃ g, Hid (g = wr.heap.size) := ⟨_, Lib.hid rfl⟩
      have HWU : Hid (Whole U g 45 (ptC p (.slice po pn pc)).toArray) := Lib.hid (by rw [HU.out, Hg.out]; exact Whole.new _ _ _)
      clear hrg hpr hp9 hbk hpz
      go_wp2_with (first
        | (with_reducible show wpList _ _ _ (Oper.mk _ (Op.load 45 _) _ _ _ _ :: _) _ _; refine wpList_load_mid rfl _ _ rfl bk (off + k * 14) rfl _ _ HRg.out Try.underlying45 rfl (HSp.out.trans rfl) ?_)
        | (with_reducible show wpList _ _ _ (Oper.mk _ (Op.store 45 _ _) _ _ _ _ :: _) _ _; refine Hid.out ?_))
      refine Lib.hid ?_
      refine wpList_store_new rfl _ _ _ rfl _ (ptC p (.slice po pn pc)).toArray rfl rfl (HSp.out.trans rfl) rfl HOne.out ?_
      rw [← HU.out, ← Hg.out]
      go_simp
      go_wp2_with fail
      obtain ⟨vb, Hvb⟩ : ∃ b, Hid (b = okPart c p) := ⟨_, Lib.hid rfl⟩
      have HVx := Lib.hid (fun X : Grown U => grown_of (x := X) (HVq.out X))
      rw [← Hvb.out] at HVx
      have HNo : Hid (∀ Z : Grown U, Below W.heap.size W Z.w) := Lib.hid (fun Z => below_step HB0.out (below_step HBVU.out Z.below))
      have gN : ∀ Z : Grown U, Z.w.cell? ⟨N, 0, none⟩ = some (.slice co cn cc) := fun Z => (cellB (below_step HBVU.out Z.below) (by rw [HN2.out]; omega)).trans Hv0.out
      have gS : ∀ Z : Grown U, Z.w.cell? ⟨N + 1, 0, none⟩ = some (.slice (some ⟨bk, off, none⟩) n sc) := fun Z => (cellB (below_step HBVU.out Z.below) (by rw [HN2.out]; omega)).trans Hv1.out
      have gpA : ∀ Z : Grown U, ∀ i, Z.w.cell? ⟨g, i, none⟩ = (ptC p (.slice po pn pc)).toArray[i]? := fun Z i => by rw [Z.cell HWU.out.lt]; exact HWU.out.cell i
      obtain ⟨s0, s1, s2, s3, z4, z5, b6, ps, l0, l1, l2, l3, l4, l5⟩ := p
      unfold ptC at gpA HVx
      dsimp only at gpA HVx
      have gp0 : ∀ Z : Grown U, Z.w.cell? ⟨g, 0, none⟩ = some (.string s0) := fun Z => gpA Z 0
      have gp1 : ∀ Z : Grown U, Z.w.cell? ⟨g, 1, none⟩ = some (.string s1) := fun Z => gpA Z 1
      have gp2 : ∀ Z : Grown U, Z.w.cell? ⟨g, 2, none⟩ = some (.string s2) := fun Z => gpA Z 2
      have gp3 : ∀ Z : Grown U, Z.w.cell? ⟨g, 3, none⟩ = some (.string s3) := fun Z => gpA Z 3
      have gp4 : ∀ Z : Grown U, Z.w.cell? ⟨g, 4, none⟩ = some (.int .i64 z4) := fun Z => gpA Z 4
      have gp5 : ∀ Z : Grown U, Z.w.cell? ⟨g, 5, none⟩ = some (.int .i64 z5) := fun Z => gpA Z 5
      have gp6 : ∀ Z : Grown U, Z.w.cell? ⟨g, 6, none⟩ = some (.bool b6) := fun Z => gpA Z 6
      have gp7 : ∀ Z : Grown U, Z.w.cell? ⟨g, 7, none⟩ = some (.slice po pn pc) := fun Z => gpA Z 7
      have gp8 : ∀ Z : Grown U, Z.w.cell? ⟨g, 8, none⟩ = some (.int .i64 l0) := fun Z => gpA Z 8
      have gp9 : ∀ Z : Grown U, Z.w.cell? ⟨g, 9, none⟩ = some (.int .i64 l1) := fun Z => gpA Z 9
      have gp10 : ∀ Z : Grown U, Z.w.cell? ⟨g, 10, none⟩ = some (.int .i64 l2) := fun Z => gpA Z 10
      have gp11 : ∀ Z : Grown U, Z.w.cell? ⟨g, 11, none⟩ = some (.int .i64 l3) := fun Z => gpA Z 11
      have gp12 : ∀ Z : Grown U, Z.w.cell? ⟨g, 12, none⟩ = some (.int .i64 l4) := fun Z => gpA Z 12
      have gp13 : ∀ Z : Grown U, Z.w.cell? ⟨g, 13, none⟩ = some (.int .i64 l5) := fun Z => gpA Z 13
      clear gpA
      obtain ⟨bz, hbz⟩ : ∃ b, decide (0 < k) = b := ⟨_, rfl⟩
      have hk0 : decide ((0 : Int) < (k : Int)) = bz := by rw [← hbz]; congr 1; exact propext (by omega)
      cases bz with
      | false =>
        have HRi : Hid ((s.take (k + 1)).Pairwise LtN) := Lib.hid (rising_next hkl HR.out.2.1 (fun j hj => by have := of_decide_eq_false hbz; omega))
        cases vb with
        | false =>
          refine wp_region_grown (by kernel_rfl) (by kernel_rfl) ?_
          repeat (go_big_quiet_step (exact HVx.out _))
          refine wpQuiet_nil ?_
          rintro _ ⟨Z, rfl⟩
          go_wp2_with fail
          go_ret
          exact YesNo.no (HNo.out Z)
        | true =>
          have HNm2 := Lib.hid (named_next hkl HR.out.2.2 (by rw [← Hp.out]; exact okPart_named Hvb.out.symm))
          refine wp_region_grown (by kernel_rfl) (by kernel_rfl) ?_
          repeat (go_big_quiet_step (exact HVx.out _))
          refine wpQuiet_nil ?_
          rintro _ ⟨Z, rfl⟩
          go_wp2_with fail
          go_round
          case rel => exact ⟨k + 1, by omega, by go_num, Lib.hid ⟨below_step HBVU.out Z.below, HRi.out, HNm2.out⟩⟩
          case measure => simp [intOf]; omega
      | true =>
        have hkp : 0 < k := of_decide_eq_true hbz
        obtain ⟨j, hj⟩ : ∃ j : Nat, (k : Int) - 1 = (j : Int) := ⟨k - 1, by omega⟩
        have hjl : j < s.length := by omega
        have hjn : (j : Int) < n := by omega
        have hj0 : (0 : Int) ≤ j := by omega
        obtain ⟨bk2, off2, cs, hbo, hbk, hrg, po2, pc2, hcs, -, -⟩ := HI.out.at hjl
        cases hbo
        subst hcs
        obtain ⟨r, Hr⟩ : ∃ m, Hid (m = s[j].name) := ⟨_, Lib.hid rfl⟩
        have hrg := rangeB hrg hbk (below_step HBr.out HBU.out)
        have h0 : U.cell? ⟨bk, off + j * 14, none⟩ = some (.string r) := by rw [Hr.out]; exact hrg 0 _ rfl
        have gh : ∀ X : Grown U, X.w.cell? ⟨bk, off + j * 14, none⟩ = some (.string r) := fun X => by rw [X.cell (lt_of_cell h0)]; exact h0
        clear hrg hbk h0
        cases bl : Op.bytesLess r.toList s0.toList with
        | false =>
          refine wp_region_grown (by kernel_rfl) (by kernel_rfl) ?_
          repeat (go_big_quiet_step (exact HVx.out _))
          refine wpQuiet_nil ?_
          rintro _ ⟨Z, rfl⟩
          go_wp2_with fail
          go_ret
          exact YesNo.no (HNo.out Z)
        | true =>
          have HRi : Hid ((s.take (k + 1)).Pairwise LtN) := Lib.hid (rising_next hkl HR.out.2.1 (fun i hi hil => by
            obtain rfl : i = j := by omega
            unfold LtN
            rw [← Hr.out, ← Hp.out]
            exact bl))
          cases vb with
          | false =>
            refine wp_region_grown (by kernel_rfl) (by kernel_rfl) ?_
            repeat (go_big_quiet_step (exact HVx.out _))
            refine wpQuiet_nil ?_
            rintro _ ⟨Z, rfl⟩
            go_wp2_with fail
            go_ret
            exact YesNo.no (HNo.out Z)
          | true =>
            have HNm2 := Lib.hid (named_next hkl HR.out.2.2 (by rw [← Hp.out]; exact okPart_named Hvb.out.symm))
            refine wp_region_grown (by kernel_rfl) (by kernel_rfl) ?_
            repeat (go_big_quiet_step (exact HVx.out _))
            refine wpQuiet_nil ?_
            rintro _ ⟨Z, rfl⟩
            go_wp2_with fail
            go_round
            case rel => exact ⟨k + 1, by omega, by go_num, Lib.hid ⟨below_step HBVU.out Z.below, HRi.out, HNm2.out⟩⟩
            case measure => simp [intOf]; omega
    · obtain rfl : k = n := by omega
      have hd : decide ((k : Int) < k) = false := decide_eq_false (by omega)
      have v1 := (cellB HR.out.1 (by rw [HN2.out]; omega)).trans Hv1.out
      have v0 := (cellB HR.out.1 (by rw [HN2.out]; omega)).trans Hv0.out
      have HF := Lib.hid (show s.Pairwise LtN ∧ ∀ p ∈ s, NamedPrt p from by have := HR.out.2; rw [Hn.out, List.take_length] at this; exact this)
      go_wp2_with fail
      refine (HPl.out wr HBr.out).mono ?_
      rintro e w4 ⟨x4, rfl, hpl, hb⟩
      have HX := Lib.hid hpl
      have HB4 := Lib.hid (below_step HBr.out hb)
      clear hb hpl
      go_wp2_with fail
      go_ret
      cases x4 with
      | false => exact YesNo.no HB4.out
      | true => exact YesNo.yes ⟨HGc.out trivial, HF.out.1, HF.out.2, HX.out rfl⟩ HB4.out
end Go.Proofs.Ytapjnbofhdljfaa
