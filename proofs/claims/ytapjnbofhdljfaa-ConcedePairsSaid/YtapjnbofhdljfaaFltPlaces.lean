/- validPlaces: what a true answer says. -/
import Derived.Test.YtapjnbofhdljfaaFltVPart
import Derived.Test.YtapjnbofhdljfaaPlaceKey
namespace Go.Proofs.Ytapjnbofhdljfaa
open Go.RowKit Go.Maps Go.WideMaps
open Cat

set_option maxRecDepth 100000 in
set_option maxHeartbeats 4000000 in
theorem takes_any (co : Option Addr) (c : List Knd) (cc : Nat) (kind slot other : ByteArray) (hl : c.length ≤ 9223372036854775807) (W : World) (hi : IsL 3 ElKnd W co c) :
    Calls Try.prog 48 #[.agg #[.slice co c.length cc], .string kind, .string slot, .string other] W fun e w' => e = .returned (.bool (Con.has (Con.taken c kind slot).1 other)) ∧ Below W.heap.size W w' := by
  obtain ⟨n, Hn⟩ : ∃ n, Hid (n = c.length) := ⟨_, Lib.hid rfl⟩
  obtain ⟨N, HN⟩ : ∃ N, Hid (N = W.heap.size) := ⟨_, Lib.hid rfl⟩
  obtain ⟨V, HV⟩ : ∃ w, Hid (w = W.alloc (.cells #[.slice co n cc] 24)) := ⟨_, Lib.hid rfl⟩
  have HB : Hid (Below W.heap.size W V) := Lib.hid (by rw [HV.out]; exact (Below.refl _ _).alloc (Nat.le_refl _) _)
  have HT := Lib.hid (taken_any co c cc kind slot hl V (hi.below stKnd HB.out))
  obtain ⟨ks, Hks⟩ : ∃ u, Hid (u = (Con.taken c kind slot).1) := ⟨_, Lib.hid rfl⟩
  obtain ⟨z, Hz⟩ : ∃ u, Hid (u = (Con.taken c kind slot).2) := ⟨_, Lib.hid rfl⟩
  rw [← Hks.out, ← Hz.out] at HT
  rw [← Hks.out]
  rw [← Hn.out] at HT hl ⊢
  clear hi
  obtain ⟨u, Hu⟩ : ∃ u, Hid (u = Con.has ks other) := ⟨_, Lib.hid rfl⟩
  rw [← Hu.out]
  obtain ⟨kl, Hkl⟩ : ∃ u, Hid (u = ks.length) := ⟨_, Lib.hid rfl⟩
  rw [← Hkl.out] at HT
  go_enter Try.func48, Try.ntmps48
  go_wp2_with fail
  rw [← HN.out, ← HV.out]
  refine HT.out.mono ?_
  rintro e w1 ⟨ko, kc, rfl, hk, hk1, hk2, hb⟩
  have HB1 := Lib.hid (below_step HB.out hb)
  have HC : Hid (Calls Try.prog 35 #[.slice ko kl kc, .string other] w1 fun e w' => e = .returned (.bool (Con.has ks other)) ∧ w' = w1) := Lib.hid (by
    have := contains_str ko ks kc other (by rw [← Hkl.out]; omega) w1 hk
    rw [← Hkl.out] at this
    exact this)
  rw [← Hu.out] at HC
  clear hk hb
  go_wp2_with fail
  refine HC.out.mono ?_
  rintro e w2 ⟨rfl, rfl⟩
  go_wp2_with fail
  go_ret
  exact ⟨rfl, HB1.out⟩

/-- A part that stands somewhere. -/
def FitPrt (p : Prt) : Prop := ¬ (p.into = Con.empty ∧ p.slot = Con.empty)
/-- It stands in a part of the state, whose slot takes it. -/
def HeldPrt (c : List Knd) (s : List Prt) (p : Prt) : Prop := ∃ h ∈ s, h.name = p.into ∧ Con.has (Con.taken c h.kind p.slot).1 p.kind = true
def AptPrt (p q : Prt) : Prop := FitPrt p → FitPrt q → ¬ (p.into = q.into ∧ p.slot = q.slot)
structure Placed (c : List Knd) (s l : List Prt) : Prop where
  held : ∀ p ∈ l, FitPrt p → HeldPrt c s p
  apart : l.Pairwise AptPrt
/-- What the map of places has. -/
def Tells (f : Value → Option Bool) (l : List Prt) : Prop := ∀ p ∈ l, FitPrt p → f (placeV p.into p.slot) = some true
theorem Placed.nil (c : List Knd) (s : List Prt) : Placed c s [] := ⟨by simp, List.Pairwise.nil⟩
theorem Placed.skip {c : List Knd} {s l : List Prt} {k : Nat} (hk : k < l.length) (h : Placed c s (l.take k)) (hf : ¬ FitPrt l[k]) : Placed c s (l.take (k + 1)) := by
  rw [← List.take_append_getElem hk]
  refine ⟨fun p hp => ?_, List.pairwise_append.2 ⟨h.apart, List.pairwise_singleton _ _, fun a _ b hb => ?_⟩⟩
  · rcases List.mem_append.1 hp with hp | hp
    · exact h.held p hp
    · rw [List.mem_singleton.1 hp]; exact fun hh => absurd hh hf
  · rw [List.mem_singleton.1 hb]; exact fun _ hh => absurd hh hf
theorem Placed.next {c : List Knd} {s l : List Prt} {k : Nat} {f : Value → Option Bool} (hk : k < l.length) (h : Placed c s (l.take k)) (ht : Tells f (l.take k)) (hn : (f (placeV l[k].into l[k].slot)).getD false = false) (hh : HeldPrt c s l[k]) : Placed c s (l.take (k + 1)) := by
  rw [← List.take_append_getElem hk]
  refine ⟨fun p hp => ?_, List.pairwise_append.2 ⟨h.apart, List.pairwise_singleton _ _, fun a ha b hb => ?_⟩⟩
  · rcases List.mem_append.1 hp with hp | hp
    · exact h.held p hp
    · rw [List.mem_singleton.1 hp]; exact fun _ => hh
  · rw [List.mem_singleton.1 hb]
    intro hfa _ he
    have := ht a ha hfa
    rw [he.1, he.2] at this
    rw [this] at hn
    cases hn
theorem Tells.skip {l : List Prt} {k : Nat} {f : Value → Option Bool} (hk : k < l.length) (ht : Tells f (l.take k)) (hf : ¬ FitPrt l[k]) : Tells f (l.take (k + 1)) := fun p hp => by
  rw [← List.take_append_getElem hk] at hp
  rcases List.mem_append.1 hp with hp | hp
  · exact ht p hp
  · rw [List.mem_singleton.1 hp]; exact fun hh => absurd hh hf
theorem Tells.next {l : List Prt} {k : Nat} {f : Value → Option Bool} (hk : k < l.length) (ht : Tells f (l.take k)) : Tells (putF f (placeV l[k].into l[k].slot) true) (l.take (k + 1)) := fun p hp hf => by
  unfold putF
  by_cases e : placeV p.into p.slot = placeV l[k].into l[k].slot
  · rw [if_pos e]
  · rw [if_neg e]
    rw [← List.take_append_getElem hk] at hp
    rcases List.mem_append.1 hp with hp | hp
    · exact ht p hp hf
    · rw [List.mem_singleton.1 hp] at e; exact absurd rfl e

set_option maxRecDepth 100000 in
set_option maxHeartbeats 8000000 in
theorem places_any (co : Option Addr) (c : List Knd) (cc : Nat) (so : Option Addr) (s : List Prt) (sc : Nat) (hl : c.length ≤ 9223372036854775807) (hls : s.length ≤ 1000000) (hsz : ∀ p ∈ s, SzPrt p) (W : World) (hi : IsL 3 ElKnd W co c) (hs : IsL 14 ElPrt W so s) :
    Calls Try.prog 32 #[.agg #[.slice co c.length cc], .agg #[.slice so s.length sc]] W (YesNo (Placed c s s) W) := by
  have HI := Lib.hid hs
  have HSZ := Lib.hid hsz
  have HTk := Lib.hid (fun (k sl o : ByteArray) (w : World) (hw : Below W.heap.size W w) => takes_any co c cc k sl o hl w (hi.below stKnd hw))
  have HPs := Lib.hid (fun (x : ByteArray) (w : World) (hw : Below W.heap.size W w) => position_any so s sc x hls w (hs.below stPrt hw))
  have HZ := Lib.hid zero_bool
  have HSp := Lib.hid part_size
  have hmm := @run_makeMap Try.prog
  clear hi hs hsz
  obtain ⟨n, Hn⟩ : ∃ n, Hid (n = s.length) := ⟨_, Lib.hid rfl⟩
  rw [← Hn.out] at hls HPs ⊢
  obtain ⟨cn, Hcn⟩ : ∃ n, Hid (n = c.length) := ⟨_, Lib.hid rfl⟩
  rw [← Hcn.out] at HTk ⊢
  obtain ⟨N, HN⟩ : ∃ N, Hid (N = W.heap.size) := ⟨_, Lib.hid rfl⟩
  obtain ⟨V0, HV0⟩ : ∃ w, Hid (w = (W.alloc (.cells #[.slice co cn cc] 24)).alloc (.cells #[.slice so n sc] 28)) := ⟨_, Lib.hid rfl⟩
  have HB0 : Hid (Below W.heap.size W V0) := Lib.hid (by rw [HV0.out]; exact below_alloc ((Below.refl _ _).alloc (Nat.le_refl _) _) _)
  have hN2 : V0.heap.size = N + 1 + 1 := by rw [HV0.out, size_alloc, size_alloc, HN.out]
  have HN2 := Lib.hid hN2
  clear hN2
  have v0 : V0.cell? ⟨N, 0, none⟩ = some (.slice co cn cc) := by rw [HV0.out, HN.out]; go_simp
  have v1 : V0.cell? ⟨N + 1, 0, none⟩ = some (.slice so n sc) := by rw [HV0.out, HN.out]; go_simp
  have Hv0 := Lib.hid v0
  have Hv1 := Lib.hid v1
  clear v0 v1
  have HMk := Lib.hid (BMap.made Try.prog 97 V0)
  obtain ⟨V, HV⟩ : ∃ w, Hid (w = V0.alloc (.map #[] 0)) := ⟨_, Lib.hid rfl⟩
  have HB : Hid (Below V0.heap.size V0 V) := Lib.hid (by rw [HV.out]; exact (Below.refl _ _).alloc (Nat.le_refl _) _)
  rw [← HV.out, HN2.out] at HMk
  go_enter Try.func32, Try.ntmps32
  go_wp2_with fail
  rw [← HV0.out, ← HV.out, ← HN.out]
  go_loopw [15] (fun i wr => ∃ k : Nat, k ≤ n ∧ i = .int .i64 k ∧ Hid (Below V0.heap.size V0 wr ∧ (∃ f, BMap Try.prog 97 wr (N + 1 + 1) k f ∧ Tells f (s.take k)) ∧ Placed c s (s.take k))) (fun i _ => n - (intOf i).toNat)
  case atStart => exact ⟨0, Nat.zero_le _, by go_num, Lib.hid ⟨HB.out, ⟨_, HMk.out, by intro p hp; simp at hp⟩, by rw [List.take_zero]; exact Placed.nil _ _⟩⟩
  case round =>
    obtain ⟨k, hk, rfl, HR⟩ := hrel
    have HBr := Lib.hid (below_step HB0.out HR.out.1)
    by_cases hkn : k < n
    · have hd : decide ((k : Int) < n) = true := decide_eq_true (by omega)
      have hb0 : (0 : Int) ≤ k := by omega
      have hb1 : (k : Int) < n := by omega
      have hkl : k < s.length := by rw [← Hn.out]; exact hkn
      obtain ⟨bk, off, cs, rfl, hbk, hrg, po, pc, rfl, hpr, hp9⟩ := HI.out.at hkl
      obtain ⟨p, Hp⟩ : ∃ m, Hid (m = s[k]) := ⟨_, Lib.hid rfl⟩
      have hpz : SzPrt p := by rw [Hp.out]; exact HSZ.out _ (List.getElem_mem hkl)
      rw [← Hp.out] at hrg
      obtain ⟨pn, Hpn⟩ : ∃ m, Hid (m = s[k].props.length) := ⟨_, Lib.hid rfl⟩
      rw [← Hp.out] at Hpn
      rw [← Hpn.out] at hrg
      have HRg := Lib.hid (rangeB hrg hbk HBr.out)
      have HOne := Lib.hid (ptC_one p po pn pc)
      obtain ⟨U, HU⟩ : ∃ w, Hid (w = wr.alloc (.cells (ptC p (.slice po pn pc)).toArray 45)) := ⟨_, Lib.hid rfl⟩
      obtain ⟨g, Hg⟩ : ∃ g, Hid (g = wr.heap.size) := ⟨_, Lib.hid rfl⟩
      have HWU : Hid (Whole U g 45 (ptC p (.slice po pn pc)).toArray) := Lib.hid (by rw [HU.out, Hg.out]; exact Whole.new _ _ _)
      have HBU : Hid (Below wr.heap.size wr U) := Lib.hid (by rw [HU.out]; exact (Below.refl _ _).alloc (Nat.le_refl _) _)
      have HBVU := Lib.hid (below_step HR.out.1 HBU.out)
      clear hrg hpr hp9 hbk
      go_wp2_with (first
        | (with_reducible show wpList _ _ _ (Oper.mk _ (Op.load 45 _) _ _ _ _ :: _) _ _; refine wpList_load_mid rfl _ _ rfl bk (off + k * 14) rfl _ _ HRg.out Try.underlying45 rfl (HSp.out.trans rfl) ?_)
        | (with_reducible show wpList _ _ _ (Oper.mk _ (Op.store 45 _ _) _ _ _ _ :: _) _ _; refine Hid.out ?_))
      refine Lib.hid ?_
      refine wpList_store_new rfl _ _ _ rfl _ (ptC p (.slice po pn pc)).toArray rfl rfl (HSp.out.trans rfl) rfl HOne.out ?_
      rw [← HU.out, ← Hg.out]
      obtain ⟨pin, Hpin⟩ : ∃ m, Hid (m = p.into) := ⟨_, Lib.hid rfl⟩
      obtain ⟨psl, Hpsl⟩ : ∃ m, Hid (m = p.slot) := ⟨_, Lib.hid rfl⟩
      obtain ⟨pki, Hpki⟩ : ∃ m, Hid (m = p.kind) := ⟨_, Lib.hid rfl⟩
      have u2 : U.cell? ⟨g, 2, none⟩ = some (.string pin) := by rw [Hpin.out]; exact HWU.out.cell 2
      have u3 : U.cell? ⟨g, 3, none⟩ = some (.string psl) := by rw [Hpsl.out]; exact HWU.out.cell 3
      obtain ⟨b1, e1⟩ : ∃ b, pin.toList.isEmpty = b := ⟨_, rfl⟩
      obtain ⟨b2, e2⟩ : ∃ b, psl.toList.isEmpty = b := ⟨_, rfl⟩
      have HFit : Hid (FitPrt p ↔ ¬ (b1 = true ∧ b2 = true)) := Lib.hid (by
        unfold FitPrt
        rw [← e1, ← e2, Con.eq_empty, Con.eq_empty, decide_eq_true_iff, decide_eq_true_iff, Hpin.out, Hpsl.out])
      obtain ⟨f, hf, hft⟩ := HR.out.2.1
      have HF := Lib.hid hf
      have HFt := Lib.hid hft
      clear hf hft
      cases b1 with
      | false =>
        have q1 : U.cell? ⟨N + 1, 0, none⟩ = some (.slice (some ⟨bk, off, none⟩) n sc) := (cellB HBVU.out (by rw [HN2.out]; omega)).trans Hv1.out
        go_wp2_with fail
        refine (HPs.out pin U (below_step HB0.out HBVU.out)).mono ?_
        rintro e w2 ⟨ix, ok, rfl, hat, hb⟩
        have HAt := Lib.hid hat
        have HBw := Lib.hid hb
        have HB2 := Lib.hid (below_step HBVU.out hb)
        clear hat hb q1 u2 u3
        have HW2 := Lib.hid (whole_belowM HWU.out HBw.out)
        have u2 : w2.cell? ⟨g, 2, none⟩ = some (.string pin) := by rw [Hpin.out]; exact HW2.out.cell 2
        have u3 : w2.cell? ⟨g, 3, none⟩ = some (.string psl) := by rw [Hpsl.out]; exact HW2.out.cell 3
        obtain ⟨X, HX⟩ : ∃ w, Hid (w = w2.alloc (.cells #[.string pin, .string psl] 97)) := ⟨_, Lib.hid rfl⟩
        obtain ⟨g2, Hg2⟩ : ∃ g, Hid (g = w2.heap.size) := ⟨_, Lib.hid rfl⟩
        have HWX : Hid (Whole X g2 97 #[.string pin, .string psl]) := Lib.hid (by rw [HX.out, Hg2.out]; exact Whole.new _ _ _)
        have HB2X : Hid (Below w2.heap.size w2 X) := Lib.hid (by rw [HX.out]; exact (Below.refl _ _).alloc (Nat.le_refl _) _)
        have HBX := Lib.hid (below_step HB2.out HB2X.out)
        go_wp2_with fail
        rw [← HX.out, ← Hg2.out]
        clear u2 u3
        have HWp := Lib.hid (whole_belowM HW2.out HB2X.out)
        have HMX : Hid (BMap Try.prog 97 X (N + 1 + 1) k f) := Lib.hid (((HF.out.below HBU.out HF.out.lt).below HBw.out (HF.out.below HBU.out HF.out.lt).lt).below HB2X.out ((HF.out.below HBU.out HF.out.lt).below HBw.out (HF.out.below HBU.out HF.out.lt).lt).lt)
        have gN : ∀ Z : Grown X, Z.w.cell? ⟨N, 0, none⟩ = some (.slice co cn cc) := fun Z => (cellB (below_step HBX.out Z.below) (by rw [HN2.out]; omega)).trans Hv0.out
        have gS : ∀ Z : Grown X, Z.w.cell? ⟨N + 1, 0, none⟩ = some (.slice (some ⟨bk, off, none⟩) n sc) := fun Z => (cellB (below_step HBX.out Z.below) (by rw [HN2.out]; omega)).trans Hv1.out
        have gp1 : ∀ Z : Grown X, Z.w.cell? ⟨g, 1, none⟩ = some (.string pki) := fun Z => by rw [Z.cell HWp.out.lt, Hpki.out]; exact HWp.out.cell 1
        have gp3 : ∀ Z : Grown X, Z.w.cell? ⟨g, 3, none⟩ = some (.string psl) := fun Z => by rw [Z.cell HWp.out.lt, Hpsl.out]; exact HWp.out.cell 3
        obtain ⟨x6, Hx6⟩ : ∃ b, Hid (b = p.scrapped) := ⟨_, Lib.hid rfl⟩
        have gp6 : ∀ Z : Grown X, Z.w.cell? ⟨g, 6, none⟩ = some (.bool x6) := fun Z => by rw [Z.cell HWp.out.lt, Hx6.out]; exact HWp.out.cell 6
        have gk0 : ∀ Z : Grown X, Z.w.cell? ⟨g2, 0, none⟩ = some (.string pin) := fun Z => by rw [Z.cell HWX.out.lt]; exact HWX.out.cell 0
        have gk1 : ∀ Z : Grown X, Z.w.cell? ⟨g2, 1, none⟩ = some (.string psl) := fun Z => by rw [Z.cell HWX.out.lt]; exact HWX.out.cell 1
        have hsz2 : pin.size ≤ 9223372036854775807 ∧ psl.size ≤ 9223372036854775807 := ⟨by rw [Hpin.out]; exact hpz.2.2.1, by rw [Hpsl.out]; exact hpz.2.2.2.1⟩
        obtain ⟨kl, hkey⟩ := place_key hsz2.1 hsz2.2
        have HKey := Lib.hid hkey
        obtain ⟨tb, Htb⟩ : ∃ b, Hid (b = (f (placeV pin psl)).getD false) := ⟨_, Lib.hid rfl⟩
        have glk : ∀ Z : Grown X, (Instr.lookup 93 (.map (some (N + 1 + 1))) (.agg #[.string pin, .string psl]) false).run Try.prog Z.w = .ok (.bool tb) Z.w := fun Z => by
          rw [Htb.out]
          exact (HMX.out.below Z.below HMX.out.lt).look place_keys Try.underlying93 (HZ.out Z.w) hkey
        clear hkey hsz2
        have HNo : Hid (∀ Z : Grown X, Below W.heap.size W Z.w) := Lib.hid (fun Z => below_step HB0.out (below_step HBX.out Z.below))
        cases ok with
        | false =>
          have HTx : Hid True := Lib.hid trivial
          refine wp_region_grown (by kernel_rfl) (by kernel_rfl) ?_
          repeat (go_big_quiet_step (exact HTx.out _))
          refine wpQuiet_nil ?_
          rintro _ ⟨Z, rfl⟩
          go_wp2_with fail
          go_ret
          exact YesNo.no (HNo.out Z)
        | true =>
        obtain ⟨h, hh1, hh2⟩ := HAt.out rfl
        have hil : ix < s.length := (List.getElem?_eq_some_iff.1 hh1).1
        have hin : (ix : Int) < n := by rw [Hn.out]; omega
        have hi0 : (0 : Int) ≤ ix := by omega
        have HH : Hid (h ∈ s ∧ h.name = pin) := Lib.hid ⟨List.mem_of_getElem? hh1, hh2⟩
        obtain ⟨hki, Hhki⟩ : ∃ m, Hid (m = h.kind) := ⟨_, Lib.hid rfl⟩
        obtain ⟨y6, Hy6⟩ : ∃ b, Hid (b = h.scrapped) := ⟨_, Lib.hid rfl⟩
        obtain ⟨bk2, off2, cs, hbo, hbk, hrg, po2, pc2, hcs, -, -⟩ := HI.out.at hil
        cases hbo
        subst hcs
        have hrg := rangeB hrg hbk (below_step HB0.out HBX.out)
        have he : s[ix] = h := by rw [List.getElem?_eq_getElem hil] at hh1; exact Option.some.inj hh1
        rw [he] at hrg
        have h1 : X.cell? ⟨bk, off + ix * 14 + 1, none⟩ = some (.string hki) := by rw [Hhki.out]; exact hrg 1 _ rfl
        have h6 : X.cell? ⟨bk, off + ix * 14 + 6, none⟩ = some (.bool y6) := by rw [Hy6.out]; exact hrg 6 _ rfl
        have gh1 : ∀ Z : Grown X, Z.w.cell? ⟨bk, off + ix * 14 + 1, none⟩ = some (.string hki) := fun Z => by rw [Z.cell (lt_of_cell h1)]; exact h1
        have gh6 : ∀ Z : Grown X, Z.w.cell? ⟨bk, off + ix * 14 + 6, none⟩ = some (.bool y6) := fun Z => by rw [Z.cell (lt_of_cell h6)]; exact h6
        clear hrg hbk h1 h6
        obtain ⟨tk, Htk⟩ : ∃ b, Hid (b = Con.has (Con.taken c hki psl).1 pki) := ⟨_, Lib.hid rfl⟩
        have HTx := Lib.hid (fun Z : Grown X => grown_of (x := Z) (HTk.out hki psl pki Z.w (HNo.out Z)))
        rw [← Htk.out] at HTx
        cases x6 with
        | true =>
          refine wp_region_grown (by kernel_rfl) (by kernel_rfl) ?_
          repeat (go_big_quiet_step (exact HTx.out _))
          refine wpQuiet_nil ?_
          rintro _ ⟨Z, rfl⟩
          go_wp2_with fail
          go_ret
          exact YesNo.no (HNo.out Z)
        | false =>
        cases y6 with
        | true =>
          refine wp_region_grown (by kernel_rfl) (by kernel_rfl) ?_
          repeat (go_big_quiet_step (exact HTx.out _))
          refine wpQuiet_nil ?_
          rintro _ ⟨Z, rfl⟩
          go_wp2_with fail
          go_ret
          exact YesNo.no (HNo.out Z)
        | false =>
        cases tb with
        | true =>
          refine wp_region_grown (by kernel_rfl) (by kernel_rfl) ?_
          repeat (go_big_quiet_step (exact HTx.out _))
          refine wpQuiet_nil ?_
          rintro _ ⟨Z, rfl⟩
          go_wp2_with fail
          go_ret
          exact YesNo.no (HNo.out Z)
        | false =>
        cases tk with
        | false =>
          refine wp_region_grown (by kernel_rfl) (by kernel_rfl) ?_
          repeat (go_big_quiet_step (exact HTx.out _))
          refine wpQuiet_nil ?_
          rintro _ ⟨Z, rfl⟩
          go_wp2_with fail
          go_ret
          exact YesNo.no (HNo.out Z)
        | true =>
          have HHeld : Hid (HeldPrt c s p) := Lib.hid ⟨h, HH.out.1, HH.out.2.trans Hpin.out, by rw [← Hhki.out, ← Hpsl.out, ← Hpki.out]; exact Htk.out.symm⟩
          refine wp_region_grown (by kernel_rfl) (by kernel_rfl) ?_
          repeat (go_big_quiet_step (exact HTx.out _))
          refine wpQuiet_nil ?_
          rintro _ ⟨Z, rfl⟩
          have hks : k < maxLen := by unfold maxLen; omega
          obtain ⟨w5, hrun5, hm5, hg5⟩ := (HMX.out.below Z.below HMX.out.lt).put place_keys Try.underlying93 hks HKey.out true
          have e5 : placeV pin psl = .agg #[.string pin, .string psl] := rfl
          rw [e5] at hrun5
          have HM5 := Lib.hid hm5
          have HB5 : Hid (Below V0.heap.size V0 w5) := Lib.hid ((below_step HBX.out Z.below).grown hg5 (below_step HBX.out Z.below).size (fun y e => by cases e; rw [HN2.out]; exact Nat.le_refl _))
          have HT5 : Hid (Tells (putF f (placeV pin psl) true) (s.take (k + 1))) := Lib.hid (by have := Tells.next hkl HFt.out; rw [← Hp.out, ← Hpin.out, ← Hpsl.out] at this; exact this)
          have HP5 : Hid (Placed c s (s.take (k + 1))) := Lib.hid (HR.out.2.2.next hkl HFt.out (by rw [← Hp.out, ← Hpin.out, ← Hpsl.out]; exact Htb.out.symm) (by rw [← Hp.out]; exact HHeld.out))
          clear hm5 hg5 e5
          go_wp2_with fail
          go_round
          case rel => exact ⟨k + 1, by omega, by go_num, Lib.hid ⟨HB5.out, ⟨_, HM5.out, HT5.out⟩, HP5.out⟩⟩
          case measure => simp [intOf]; omega
      | true =>
      cases b2 with
      | false =>
        have q1 : U.cell? ⟨N + 1, 0, none⟩ = some (.slice (some ⟨bk, off, none⟩) n sc) := (cellB HBVU.out (by rw [HN2.out]; omega)).trans Hv1.out
        go_wp2_with fail
        refine (HPs.out pin U (below_step HB0.out HBVU.out)).mono ?_
        rintro e w2 ⟨ix, ok, rfl, hat, hb⟩
        have HAt := Lib.hid hat
        have HBw := Lib.hid hb
        have HB2 := Lib.hid (below_step HBVU.out hb)
        clear hat hb q1 u2 u3
        have HW2 := Lib.hid (whole_belowM HWU.out HBw.out)
        have u2 : w2.cell? ⟨g, 2, none⟩ = some (.string pin) := by rw [Hpin.out]; exact HW2.out.cell 2
        have u3 : w2.cell? ⟨g, 3, none⟩ = some (.string psl) := by rw [Hpsl.out]; exact HW2.out.cell 3
        obtain ⟨X, HX⟩ : ∃ w, Hid (w = w2.alloc (.cells #[.string pin, .string psl] 97)) := ⟨_, Lib.hid rfl⟩
        obtain ⟨g2, Hg2⟩ : ∃ g, Hid (g = w2.heap.size) := ⟨_, Lib.hid rfl⟩
        have HWX : Hid (Whole X g2 97 #[.string pin, .string psl]) := Lib.hid (by rw [HX.out, Hg2.out]; exact Whole.new _ _ _)
        have HB2X : Hid (Below w2.heap.size w2 X) := Lib.hid (by rw [HX.out]; exact (Below.refl _ _).alloc (Nat.le_refl _) _)
        have HBX := Lib.hid (below_step HB2.out HB2X.out)
        go_wp2_with fail
        rw [← HX.out, ← Hg2.out]
        clear u2 u3
        have HWp := Lib.hid (whole_belowM HW2.out HB2X.out)
        have HMX : Hid (BMap Try.prog 97 X (N + 1 + 1) k f) := Lib.hid (((HF.out.below HBU.out HF.out.lt).below HBw.out (HF.out.below HBU.out HF.out.lt).lt).below HB2X.out ((HF.out.below HBU.out HF.out.lt).below HBw.out (HF.out.below HBU.out HF.out.lt).lt).lt)
        have gN : ∀ Z : Grown X, Z.w.cell? ⟨N, 0, none⟩ = some (.slice co cn cc) := fun Z => (cellB (below_step HBX.out Z.below) (by rw [HN2.out]; omega)).trans Hv0.out
        have gS : ∀ Z : Grown X, Z.w.cell? ⟨N + 1, 0, none⟩ = some (.slice (some ⟨bk, off, none⟩) n sc) := fun Z => (cellB (below_step HBX.out Z.below) (by rw [HN2.out]; omega)).trans Hv1.out
        have gp1 : ∀ Z : Grown X, Z.w.cell? ⟨g, 1, none⟩ = some (.string pki) := fun Z => by rw [Z.cell HWp.out.lt, Hpki.out]; exact HWp.out.cell 1
        have gp3 : ∀ Z : Grown X, Z.w.cell? ⟨g, 3, none⟩ = some (.string psl) := fun Z => by rw [Z.cell HWp.out.lt, Hpsl.out]; exact HWp.out.cell 3
        obtain ⟨x6, Hx6⟩ : ∃ b, Hid (b = p.scrapped) := ⟨_, Lib.hid rfl⟩
        have gp6 : ∀ Z : Grown X, Z.w.cell? ⟨g, 6, none⟩ = some (.bool x6) := fun Z => by rw [Z.cell HWp.out.lt, Hx6.out]; exact HWp.out.cell 6
        have gk0 : ∀ Z : Grown X, Z.w.cell? ⟨g2, 0, none⟩ = some (.string pin) := fun Z => by rw [Z.cell HWX.out.lt]; exact HWX.out.cell 0
        have gk1 : ∀ Z : Grown X, Z.w.cell? ⟨g2, 1, none⟩ = some (.string psl) := fun Z => by rw [Z.cell HWX.out.lt]; exact HWX.out.cell 1
        have hsz2 : pin.size ≤ 9223372036854775807 ∧ psl.size ≤ 9223372036854775807 := ⟨by rw [Hpin.out]; exact hpz.2.2.1, by rw [Hpsl.out]; exact hpz.2.2.2.1⟩
        obtain ⟨kl, hkey⟩ := place_key hsz2.1 hsz2.2
        have HKey := Lib.hid hkey
        obtain ⟨tb, Htb⟩ : ∃ b, Hid (b = (f (placeV pin psl)).getD false) := ⟨_, Lib.hid rfl⟩
        have glk : ∀ Z : Grown X, (Instr.lookup 93 (.map (some (N + 1 + 1))) (.agg #[.string pin, .string psl]) false).run Try.prog Z.w = .ok (.bool tb) Z.w := fun Z => by
          rw [Htb.out]
          exact (HMX.out.below Z.below HMX.out.lt).look place_keys Try.underlying93 (HZ.out Z.w) hkey
        clear hkey hsz2
        have HNo : Hid (∀ Z : Grown X, Below W.heap.size W Z.w) := Lib.hid (fun Z => below_step HB0.out (below_step HBX.out Z.below))
        cases ok with
        | false =>
          have HTx : Hid True := Lib.hid trivial
          refine wp_region_grown (by kernel_rfl) (by kernel_rfl) ?_
          repeat (go_big_quiet_step (exact HTx.out _))
          refine wpQuiet_nil ?_
          rintro _ ⟨Z, rfl⟩
          go_wp2_with fail
          go_ret
          exact YesNo.no (HNo.out Z)
        | true =>
        obtain ⟨h, hh1, hh2⟩ := HAt.out rfl
        have hil : ix < s.length := (List.getElem?_eq_some_iff.1 hh1).1
        have hin : (ix : Int) < n := by rw [Hn.out]; omega
        have hi0 : (0 : Int) ≤ ix := by omega
        have HH : Hid (h ∈ s ∧ h.name = pin) := Lib.hid ⟨List.mem_of_getElem? hh1, hh2⟩
        obtain ⟨hki, Hhki⟩ : ∃ m, Hid (m = h.kind) := ⟨_, Lib.hid rfl⟩
        obtain ⟨y6, Hy6⟩ : ∃ b, Hid (b = h.scrapped) := ⟨_, Lib.hid rfl⟩
        obtain ⟨bk2, off2, cs, hbo, hbk, hrg, po2, pc2, hcs, -, -⟩ := HI.out.at hil
        cases hbo
        subst hcs
        have hrg := rangeB hrg hbk (below_step HB0.out HBX.out)
        have he : s[ix] = h := by rw [List.getElem?_eq_getElem hil] at hh1; exact Option.some.inj hh1
        rw [he] at hrg
        have h1 : X.cell? ⟨bk, off + ix * 14 + 1, none⟩ = some (.string hki) := by rw [Hhki.out]; exact hrg 1 _ rfl
        have h6 : X.cell? ⟨bk, off + ix * 14 + 6, none⟩ = some (.bool y6) := by rw [Hy6.out]; exact hrg 6 _ rfl
        have gh1 : ∀ Z : Grown X, Z.w.cell? ⟨bk, off + ix * 14 + 1, none⟩ = some (.string hki) := fun Z => by rw [Z.cell (lt_of_cell h1)]; exact h1
        have gh6 : ∀ Z : Grown X, Z.w.cell? ⟨bk, off + ix * 14 + 6, none⟩ = some (.bool y6) := fun Z => by rw [Z.cell (lt_of_cell h6)]; exact h6
        clear hrg hbk h1 h6
        obtain ⟨tk, Htk⟩ : ∃ b, Hid (b = Con.has (Con.taken c hki psl).1 pki) := ⟨_, Lib.hid rfl⟩
        have HTx := Lib.hid (fun Z : Grown X => grown_of (x := Z) (HTk.out hki psl pki Z.w (HNo.out Z)))
        rw [← Htk.out] at HTx
        cases x6 with
        | true =>
          refine wp_region_grown (by kernel_rfl) (by kernel_rfl) ?_
          repeat (go_big_quiet_step (exact HTx.out _))
          refine wpQuiet_nil ?_
          rintro _ ⟨Z, rfl⟩
          go_wp2_with fail
          go_ret
          exact YesNo.no (HNo.out Z)
        | false =>
        cases y6 with
        | true =>
          refine wp_region_grown (by kernel_rfl) (by kernel_rfl) ?_
          repeat (go_big_quiet_step (exact HTx.out _))
          refine wpQuiet_nil ?_
          rintro _ ⟨Z, rfl⟩
          go_wp2_with fail
          go_ret
          exact YesNo.no (HNo.out Z)
        | false =>
        cases tb with
        | true =>
          refine wp_region_grown (by kernel_rfl) (by kernel_rfl) ?_
          repeat (go_big_quiet_step (exact HTx.out _))
          refine wpQuiet_nil ?_
          rintro _ ⟨Z, rfl⟩
          go_wp2_with fail
          go_ret
          exact YesNo.no (HNo.out Z)
        | false =>
        cases tk with
        | false =>
          refine wp_region_grown (by kernel_rfl) (by kernel_rfl) ?_
          repeat (go_big_quiet_step (exact HTx.out _))
          refine wpQuiet_nil ?_
          rintro _ ⟨Z, rfl⟩
          go_wp2_with fail
          go_ret
          exact YesNo.no (HNo.out Z)
        | true =>
          have HHeld : Hid (HeldPrt c s p) := Lib.hid ⟨h, HH.out.1, HH.out.2.trans Hpin.out, by rw [← Hhki.out, ← Hpsl.out, ← Hpki.out]; exact Htk.out.symm⟩
          refine wp_region_grown (by kernel_rfl) (by kernel_rfl) ?_
          repeat (go_big_quiet_step (exact HTx.out _))
          refine wpQuiet_nil ?_
          rintro _ ⟨Z, rfl⟩
          have hks : k < maxLen := by unfold maxLen; omega
          obtain ⟨w5, hrun5, hm5, hg5⟩ := (HMX.out.below Z.below HMX.out.lt).put place_keys Try.underlying93 hks HKey.out true
          have e5 : placeV pin psl = .agg #[.string pin, .string psl] := rfl
          rw [e5] at hrun5
          have HM5 := Lib.hid hm5
          have HB5 : Hid (Below V0.heap.size V0 w5) := Lib.hid ((below_step HBX.out Z.below).grown hg5 (below_step HBX.out Z.below).size (fun y e => by cases e; rw [HN2.out]; exact Nat.le_refl _))
          have HT5 : Hid (Tells (putF f (placeV pin psl) true) (s.take (k + 1))) := Lib.hid (by have := Tells.next hkl HFt.out; rw [← Hp.out, ← Hpin.out, ← Hpsl.out] at this; exact this)
          have HP5 : Hid (Placed c s (s.take (k + 1))) := Lib.hid (HR.out.2.2.next hkl HFt.out (by rw [← Hp.out, ← Hpin.out, ← Hpsl.out]; exact Htb.out.symm) (by rw [← Hp.out]; exact HHeld.out))
          clear hm5 hg5 e5
          go_wp2_with fail
          go_round
          case rel => exact ⟨k + 1, by omega, by go_num, Lib.hid ⟨HB5.out, ⟨_, HM5.out, HT5.out⟩, HP5.out⟩⟩
          case measure => simp [intOf]; omega
      | true =>
        have HNf : Hid (¬ FitPrt s[k]) := Lib.hid (by rw [← Hp.out, HFit.out]; simp)
        have HP5 := Lib.hid (HR.out.2.2.skip hkl HNf.out)
        have HT5 := Lib.hid (HFt.out.skip hkl HNf.out)
        have HM5 := Lib.hid ((HF.out.below HBU.out HF.out.lt).mono (Nat.le_succ k))
        go_wp2_with fail
        go_round
        case rel => exact ⟨k + 1, by omega, by go_num, Lib.hid ⟨HBVU.out, ⟨_, HM5.out, HT5.out⟩, HP5.out⟩⟩
        case measure => simp [intOf]; omega
    · obtain rfl : k = n := by omega
      have hd : decide ((k : Int) < k) = false := decide_eq_false (by omega)
      have HF := Lib.hid (show Placed c s s from by have := HR.out.2.2; rw [Hn.out, List.take_length] at this; exact this)
      go_wp2_with fail
      go_ret
      exact YesNo.yes HF.out HBr.out
end Go.Proofs.Ytapjnbofhdljfaa
