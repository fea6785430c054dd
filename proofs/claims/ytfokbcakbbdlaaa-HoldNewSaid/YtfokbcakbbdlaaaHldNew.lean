/- HoldNew. -/
import Derived.Test.YtfokbcakbbdlaaaHldNobody
import Derived.Test.YtfokbcakbbdlaaaHldNames
namespace Go.Proofs.Ytfokbcakbbdlaaa
open Go.RowKit
open Hld (Rc Hd)

theorem holds_take {w : World} {ao : Option Addr} {H L : List Hd} (h : IsHolds w ao (H ++ L)) : IsHolds w ao H := by
  rcases h with h | ⟨bk, off, h1, h2, h3⟩
  · exact Or.inl (List.append_eq_nil_iff.1 h).1
  · exact Or.inr ⟨bk, off, h1, h2, fun k hk => by
      have := h3 k (by rw [List.length_append]; omega)
      rw [List.getElem_append_left hk] at this
      exact this⟩

set_option maxRecDepth 100000 in
set_option maxHeartbeats 16000000 in
theorem new_any (ids : List ByteArray) (recs : List Rc) (x : Rc) (id : ByteArray) (hid9 : id.size ≤ 9223372036854775807) (io ro : Option Addr) (ic rc : Nat) (hn : recs.length * 480 ≤ 140737488351232) (hm : ids.length * 16 ≤ 140737488351232) (W : World) (hi : IsStrs W io ids) (hr : IsRecs W ro recs) (hx : RcOk x) (hxm : IsInts W x.mo x.members) :
    Calls Try.prog 7 #[.slice io ids.length ic, .slice ro recs.length rc, .agg x.cells.toArray, .string id] W fun e w' => e = .returned (.bool true) ∧ Below W.heap.size W w' := by
  obtain ⟨i1, hi1, hy0, hy1, hy2⟩ := info_parts info_str
  have HFew := Lib.hid (fun (io2 ro2 : Option Addr) (ic2 rc2 : Nat) W1 h1 h2 => few_any (ids ++ [id]) (recs ++ [x]) io2 ro2 ic2 rc2 (by rw [List.length_append]; simp; omega) (by rw [List.length_append]; simp; omega) W1 h1 h2)
  have HI := Lib.hid hi
  have HR := Lib.hid hr
  have HOk := Lib.hid hx
  have HXm := Lib.hid hxm
  have HAll := Lib.hid (@all_any ids recs io ro ic rc)
  clear hi hr hx hxm
  obtain ⟨n, Hn⟩ : ∃ n, Hid (n = recs.length) := ⟨_, Lib.hid rfl⟩
  obtain ⟨m, Hm⟩ : ∃ n, Hid (n = ids.length) := ⟨_, Lib.hid rfl⟩
  rw [← Hn.out] at hn
  rw [← Hm.out] at hm
  have hbytes : n * 480 ≤ 140737488351232 := hn
  rw [← Hn.out, ← Hm.out]
  go_enter Try.func7, Try.ntmps7
  go_wp2_with fail
  obtain ⟨gx, Hgx⟩ : ∃ g, Hid (g = W.heap.size) := ⟨_, Lib.hid rfl⟩
  obtain ⟨W0, HW0⟩ : ∃ w, Hid (w = W.alloc (.cells x.cells.toArray 54)) := ⟨_, Lib.hid rfl⟩
  have HBx0 : Hid (Whole W0 gx 54 x.cells.toArray) := Lib.hid (by rw [HW0.out, Hgx.out]; exact Whole.new _ _ _)
  have HB0 : Hid (Below W.heap.size W W0) := Lib.hid (by rw [HW0.out]; exact (Below.refl _ _).alloc (Nat.le_refl _) _)
  rw [← HW0.out, ← Hgx.out]
  refine (head_any W0).mono ?_
  rintro e V ⟨rfl, hb1⟩
  have HBox := Lib.hid (whole_below HBx0.out hb1)
  have HBV := Lib.hid (below_step HB0.out hb1)
  have HRV := Lib.hid (HR.out.below HBV.out)
  clear hb1
  go_wp2_with fail
  apply wp_region_ent 121 (CpT V x recs n ro rc) (by kernel_rfl) (by kernel_rfl) rfl CpT.start
  · intro j o ho e w A' hT hej hwt hsee haway
    have h6 : A'.eval (.tmp 6) = .pointer (some ⟨gx, 0, none⟩) := (haway 6 (by kernel_rfl)).trans rfl
    have h1 : A'.eval (.tmp 1) = .slice ro n rc := (haway 1 (by kernel_rfl)).trans rfl
    have HWx := whole_below HBox.out hT.below
    have hj : j < 7 := by have := (List.getElem?_eq_some_iff.1 ho).1; simpa using this
    have hj : j = 0 ∨ j = 1 ∨ j = 2 ∨ j = 3 ∨ j = 4 ∨ j = 5 ∨ j = 6 := by omega
    rcases hj with rfl | rfl | rfl | rfl | rfl | rfl | rfl
    all_goals
      simp only [List.getElem?_cons_succ, List.getElem?_cons_zero, Option.some.injEq] at ho
      subst ho
    · exact wp_of_run (run_empty_recs _ _ _ _ _ _ _) ⟨_, rfl, hT.step (by decide) ((Below.refl _ _).alloc (Nat.le_refl _) _) ⟨_, rfl, hT.below.size, Whole.new _ _ _⟩⟩
    · exact wp_of_run (run_move _ _ _ _ _ _ _ 1 _ h1) ⟨_, rfl, hT.step (by decide) (Below.refl _ _) rfl⟩
    · have e0 := hsee 18 (by decide) 0 rfl
      have e1 := hsee 19 (by decide) 1 rfl
      by_cases h5 : e 5 = none
      · obtain ⟨g0, q1, q2, q3⟩ := hT.each h5 0 _ e0
        have q4 := hT.each h5 1 _ e1
        obtain ⟨v, w', hr, r1, r2⟩ := run_copy_recs 23 g0 q3 V.heap.size q2 recs n Hn.out hbytes ro rc (HRV.out.below hT.below)
        exact wp_of_run (run_append_rec _ _ _ _ _ _ _ w' 18 19 _ _ _ q1 q4 hr) ⟨_, rfl, hT.step (by decide) r2 r1⟩
      · exact absurd (hT.two h5).1 (by rw [hej]; simp)
    · exact wp_of_run (run_load_rec _ _ _ _ _ _ _ 6 gx x HOk.out h6 HWx) ⟨_, rfl, hT.step (by decide) (Below.refl _ _) rfl⟩
    · have e3 := hsee 21 (by decide) 3 rfl
      by_cases h5 : e 5 = none
      · have q := hT.each h5 3 _ e3
        exact wp_of_run (run_one_rec _ _ _ _ _ _ _ 21 x.cells HOk.out.len q) ⟨_, rfl, hT.step (by decide) ((Below.refl _ _).alloc (Nat.le_refl _) _) ⟨_, rfl, Whole.new _ _ _⟩⟩
      · exact absurd (hT.two h5).2 (by rw [hej]; simp)
    · have e2 := hsee 20 (by decide) 2 rfl
      have e4 := hsee 22 (by decide) 4 rfl
      have q2 := hT.each hej 2 _ e2
      obtain ⟨g, q4, q5⟩ := hT.each hej 4 _ e4
      obtain ⟨v, w', hr, r1, r2⟩ := cp_append 23 HOk.out hbytes hT.below q2 q5
      exact wp_of_run (run_append_rec _ _ _ _ _ _ _ w' 20 22 _ _ _ rfl q4 hr) ⟨_, rfl, hT.grow hej (by rw [e2]; simp) (by rw [e4]; simp) r2 r1⟩
    · have e5 := hsee 23 (by decide) 5 rfl
      exact wp_of_run (run_assign _ _ _ _ _ _ _ 23 _ rfl) ⟨_, rfl, hT.last e5⟩
  intro e w2 hT hall
  obtain ⟨v0, h0⟩ := hall 0 (by decide)
  obtain ⟨v1, h1⟩ := hall 1 (by decide)
  obtain ⟨v2, h2⟩ := hall 2 (by decide)
  obtain ⟨v3, h3⟩ := hall 3 (by decide)
  obtain ⟨v4, h4⟩ := hall 4 (by decide)
  obtain ⟨v5, h5⟩ := hall 5 (by decide)
  obtain ⟨v6, h6⟩ := hall 6 (by decide)
  have h65 := hT.six v6 h6
  rw [h5] at h65
  obtain rfl := Option.some.inj h65
  have HRw := Lib.hid (hT.five _ h5)
  have HB2 := Lib.hid hT.below
  simp only [List.length_cons, List.length_nil, Nat.reduceAdd, fillTo, h0, h1, h2, h3, h4, h5, h6, dstOf]
  clear hT hall h0 h1 h2 h3 h4 h5 h6
  obtain ⟨av, Hav⟩ : ∃ u : Value, Hid (u = v5) := ⟨_, Lib.hid rfl⟩
  clear Hav av
  have HI2 := Lib.hid (HI.out.below (below_step HBV.out HB2.out))
  go_wp2_with (at_builtin; refine wpList_copy_names rfl _ _ rfl w2.heap.size rfl (Whole.new _ _ _) V.heap.size HB2.out.size ids m Hm.out hm io ic rfl (HI2.out.below ((Below.refl _ _).alloc (Nat.le_refl _) _)) ?_; intro nv w3 hown hb; refine Hid.out ?_)
  refine Lib.hid ?_
  have HNv := Lib.hid hown
  have HB3' : Hid (Below w2.heap.size w2 w3) := Lib.hid (below_step ((Below.refl _ _).alloc (Nat.le_refl _) _) hb)
  clear hown hb
  have hs3 : V.heap.size ≤ (w3.alloc (.cells #[.string id] 9)).heap.size := by rw [size_alloc]; have := HB3'.out.size; have := HB2.out.size; omega
  have HNs : Hid (∀ (i : Nat) (u : Value), [Value.string id][i]? = some u → (w3.alloc (.cells #[.string id] 9)).cell? ((⟨w3.heap.size, 0, none⟩ : Addr).add i) = some u) := Lib.hid (by
    intro i u hu
    have e : (⟨w3.heap.size, 0, none⟩ : Addr).add i = ⟨w3.heap.size, i, none⟩ := by unfold Addr.add; split <;> simp_all
    rw [e, cell_alloc, if_pos rfl]
    simpa using hu)
  have HEnd : Hid (∀ w4 nv', (w3.alloc (.cells #[.string id] 9)).grownBy w4 nv.ownBlock → w4.ownsRow V.heap.size 9 1 nv' (m + 1) (strC ids ++ [.string id]) → Below V.heap.size V w4 ∧ w4.ownsRow V.heap.size 9 1 nv' (m + 1) (strC (ids ++ [id])) ∧ w4.ownsRow V.heap.size 54 36 v5 (n + 1) (recsC (recs ++ [x]))) := Lib.hid (fun w4 nv' hg ho => by
    have hba : Below w3.heap.size w3 (w3.alloc (.cells #[.string id] 9)) := (Below.refl _ _).alloc (Nat.le_refl _) _
    have k1 := owns_below HNv.out hba
    have k2 := owns_below HRw.out (below_step HB3'.out hba)
    refine ⟨(below_step (below_step HB2.out HB3'.out) hba).grown hg hs3 (fun j e => (k1.lt j e).1), ?_, ?_⟩
    · rw [strC_snoc]; exact ho
    · rw [recsC_snoc]; exact Apart.kept (owns_apart k1 k2 (by decide)) k2 hg)
  go_wp2_with (at_builtin; refine wpList_append_own _ rfl _ _ 22 rfl V.heap.size 9 i1 (.string ⟨#[]⟩) 1 16 Try.underlying22 hi1 hy0 hy1 hy2 rfl (by decide) nv m (strC ids) rfl (HNv.out.alloc _) ⟨w3.heap.size, 0, none⟩ 1 1 [.string id] rfl rfl HNs.out (by simp [Value.oneCell']) (by unfold maxLen; omega) (by omega) hs3 ?_; intro nv' w4 hown hgrow _; have HFin := Lib.hid (HEnd.out w4 nv' hgrow hown); clear hown hgrow)
  have HB4 := Lib.hid (below_step HBV.out HFin.out.1)
  have HBox4 := Lib.hid (whole_below HBox.out HFin.out.1)
  obtain ⟨ao, ac, hao⟩ := owns_shape HFin.out.2.1
  obtain ⟨bo, bc, hbo⟩ := owns_shape HFin.out.2.2
  subst hao hbo
  have hN1 : (ids ++ [id]).length = m + 1 := by rw [List.length_append, ← Hm.out]; rfl
  have hR1 : (recs ++ [x]).length = n + 1 := by rw [List.length_append, ← Hn.out]; rfl
  have l1 : IsStrs w4 ao (ids ++ [id]) := strs_of_row (B := V.heap.size) (c := ac) (by rw [hN1]; exact HFin.out.2.1)
  have l2 : IsRecs w4 bo (recs ++ [x]) := recs_of_row (B := V.heap.size) (c := bc) (by rw [hR1]; exact HFin.out.2.2) (fun r hr => by
    rcases List.mem_append.1 hr with hr | hr
    · exact ⟨(HR.out.1 r hr).1, (HR.out.1 r hr).2.below HB4.out⟩
    · rw [List.mem_singleton.1 hr]; exact ⟨HOk.out, HXm.out.below HB4.out⟩)
  have HL1 := Lib.hid l1
  have HL2 := Lib.hid l2
  have hf := HFew.out ao bo ac bc w4 l1 l2
  rw [hN1, hR1] at hf
  clear l1 l2
  refine hf.mono ?_
  rintro e w ⟨b, rfl, hf, hw⟩
  subst hw
  cases b with
  | false =>
    go_wp2_with fail
    go_ret
    exact ⟨rfl, HB4.out⟩
  | true =>
  obtain ⟨hn30, hm30, hmem, hsz⟩ := hf rfl
  have HMem := Lib.hid hmem
  have HSz := Lib.hid hsz
  clear hmem hsz hf
  by_cases hne : m ≠ n
  · have h1 : ((m : Int) == (n : Int)) = false := by
      have : ((m : Int) == (n : Int)) = decide ((m : Int) = (n : Int)) := rfl
      rw [this, decide_eq_false]; omega
    go_wp2_with fail
    go_ret
    exact ⟨rfl, HB4.out⟩
  obtain rfl : m = n := by omega
  clear hne
  have b0 := HBox4.out.cell 0
  have b6 := HBox4.out.cell 6
  have b8 := HBox4.out.cell 8
  rw [List.getElem?_toArray] at b0 b6 b8
  rw [HOk.out.c0] at b0
  rw [HOk.out.c6] at b6
  rw [HOk.out.c8] at b8
  obtain ⟨kd, Hkd⟩ : ∃ u, Hid (u = x.kind) := ⟨_, Lib.hid rfl⟩
  obtain ⟨na, Hna⟩ : ∃ u, Hid (u = x.name) := ⟨_, Lib.hid rfl⟩
  obtain ⟨ml, Hml⟩ : ∃ u, Hid (u = x.members.length) := ⟨_, Lib.hid rfl⟩
  rw [← Hkd.out] at b0
  rw [← Hna.out] at b6
  rw [← Hml.out] at b8
  by_cases h5 : kd = 5
  case neg =>
    have e5 : (kd != 5) = true := by
      have : (kd == 5) = false := by simpa using h5
      show (!(kd == 5)) = true
      rw [this]; rfl
    go_wp2_with fail
    go_ret
    exact ⟨rfl, HB4.out⟩
  by_cases h0 : ml = 0
  · have e5 : (kd != 5) = false := by rw [h5]; rfl
    have e0 : ((ml : Int) == 0) = true := by rw [h0]; rfl
    go_wp2_with fail
    go_ret
    exact ⟨rfl, HB4.out⟩
  have e5 : (kd != 5) = false := by rw [h5]; rfl
  have e0 : ((ml : Int) == 0) = false := by
    have : ((ml : Int) == 0) = decide ((ml : Int) = 0) := rfl
    rw [this, decide_eq_false]; omega
  go_wp2_with fail
  obtain ⟨P, HP⟩ : ∃ P, Hid (P = ids.zip recs) := ⟨_, Lib.hid rfl⟩
  have HNe : Hid (ids.length = recs.length) := Lib.hid (by rw [← Hn.out, ← Hm.out])
  have HPl : Hid (P.length = m) := Lib.hid (by rw [HP.out, List.length_zip, HNe.out, Nat.min_self]; exact Hn.out.symm)
  have HI4 := Lib.hid (HI.out.below HB4.out)
  go_loopw [12] (fun i wr => ∃ k : Nat, k ≤ m ∧ i = .int .i64 k ∧ wr = w4 ∧ Hid (∀ j, (h : j < ids.length) → j < k → ids[j] ≠ id)) (fun i _ => m - (intOf i).toNat)
  case atStart => exact ⟨0, Nat.zero_le _, by go_num, rfl, Lib.hid (fun j _ hj => absurd hj (Nat.not_lt_zero j))⟩
  case round =>
    obtain ⟨k, hk, rfl, hw, HNi⟩ := hrel
    replace hw := hw.symm
    subst hw
    by_cases hkn : k < m
    · have hd : decide ((k : Int) < (m : Int)) = true := decide_eq_true (by omega)
      have hb0 : (0 : Int) ≤ k := by omega
      have hb1 : (k : Int) < m := by omega
      have hki : k < ids.length := by rw [← Hm.out]; exact hkn
      obtain ⟨bi, ofi, rfl, hbi, hci⟩ := HI4.out.at hki
      obtain ⟨s, Hs⟩ : ∃ u, Hid (u = ids[k]) := ⟨_, Lib.hid rfl⟩
      rw [← Hs.out] at hci
      by_cases hs : s = id
      · have hse : (s.toList == id.toList) = true := by rw [hs]; exact beq_self_eq_true _
        clear hs
        go_wp2_with fail
        go_ret
        exact ⟨rfl, HB4.out⟩
      · have hse : (s.toList == id.toList) = false := bytes_ne hs
        have HN2 : Hid (∀ j, (h : j < ids.length) → j < k + 1 → ids[j] ≠ id) := Lib.hid (fun j h hj => by
          by_cases hjk : j = k
          · subst hjk; rw [← Hs.out]; exact hs
          · exact HNi.out j h (by omega))
        clear hs
        go_wp2_with fail
        go_round
        case rel => exact ⟨k + 1, by omega, by go_num, trivial, HN2⟩
        case measure => simp [intOf]; omega
    · obtain rfl : k = m := by omega
      have hd : decide ((k : Int) < (k : Int)) = false := decide_eq_false (by omega)
      have HPi : Hid (∀ y ∈ P, y.1 ≠ id) := Lib.hid (fun y hy => by
        rw [HP.out] at hy
        obtain ⟨j, hj, e⟩ := List.mem_iff_getElem.1 (List.of_mem_zip (show (y.1, y.2) ∈ ids.zip recs from hy)).1
        rw [← e]
        exact HNi.out j hj (by rw [Hm.out]; exact hj))
      obtain ⟨H, HHe⟩ : ∃ H, Hid (H = Hld.allF P) := ⟨_, Lib.hid rfl⟩
      obtain ⟨q, Hq⟩ : ∃ q, Hid (q = H.length) := ⟨_, Lib.hid rfl⟩
      obtain ⟨G, HG⟩ : ∃ G, Hid (G = H ++ [⟨id, na, x.members, []⟩]) := ⟨_, Lib.hid rfl⟩
      have hx0 : x.members ≠ [] := fun e => h0 (by rw [Hml.out, e]; rfl)
      have HGe : Hid (Hld.allF ((ids ++ [id]).zip (recs ++ [x])) = G) := Lib.hid (by
        rw [List.zip_append HNe.out, ← HP.out, HG.out, HHe.out, Hna.out]
        exact Hld.all_new HPi.out (by rw [← Hkd.out]; exact h5) hx0)
      have HGl : Hid (G.length = q + 1) := Lib.hid (by rw [HG.out, List.length_append, ← Hq.out]; rfl)
      have HRm : Hid (∀ r ∈ recs, r.members.length ≤ 1000) := Lib.hid (fun r hr => by have := HMem.out r (List.mem_append_left _ hr); omega)
      have HXl : Hid (x.members.length ≤ 1000) := Lib.hid (by have := HMem.out x (List.mem_append_right _ (List.mem_singleton.2 rfl)); omega)
      have HA := HAll.out (by rw [← Hn.out]; omega) (by rw [← Hm.out]; omega) (fun s hs => by have := HSz.out s (List.mem_append_left _ hs); omega) HRm.out w4 HI4.out (HR.out.below HB4.out) HNe.out
      rw [← HP.out, ← HHe.out, ← Hq.out, ← Hn.out, ← Hm.out] at HA
      have HA := Lib.hid HA
      have hq1000 : q ≤ 1000 := by
        have := Hld.allF_len P
        rw [← HHe.out, ← Hq.out, HPl.out] at this
        omega
      have HHm : Hid (∀ h ∈ H, h.members.length ≤ 1000 ∧ h.back.length ≤ 1000) := Lib.hid (fun h hh => by
        rw [HHe.out] at hh
        obtain ⟨⟨y, hy, _, e⟩, e2⟩ := Hld.all_mem hh
        rw [HP.out] at hy
        have := HRm.out _ (List.of_mem_zip (show (y.1, y.2) ∈ ids.zip recs from hy)).2
        rw [HPl.out] at e2
        rw [e]
        omega)
      have HGm : Hid (∀ h ∈ G, h.members.length ≤ 100000 ∧ h.back.length ≤ 100000) := Lib.hid (fun h hh => by
        rw [HG.out] at hh
        rcases List.mem_append.1 hh with hh | hh
        · have := HHm.out h hh; omega
        · rw [List.mem_singleton.1 hh]
          have := HXl.out
          exact ⟨by show x.members.length ≤ _; omega, by simp⟩)
      have HC := Lib.hid (fun w a b => all_any (ids ++ [id]) (recs ++ [x]) ao bo ac bc (by rw [hR1]; omega) (by rw [hN1]; omega) (fun s hs => by have := HSz.out s hs; omega) (fun r hr => by have := HMem.out r hr; omega) w a b (by rw [hN1, hR1]))
      rw [HGe.out, HGl.out, hN1, hR1] at HC
      go_wp2_with fail
      refine HA.out.mono ?_
      rintro e w5 ⟨ho, hc, rfl, hh, hqc, hb⟩
      have HHs := Lib.hid hh
      have HB45 := Lib.hid hb
      clear hh hb
      go_wp2_with fail
      refine (HC.out w5 (HL1.out.below HB45.out) (HL2.out.below HB45.out)).mono ?_
      rintro e w6 ⟨go, gc, rfl, hh, hqg, hb⟩
      have HGs := Lib.hid hh
      have HHs6 := Lib.hid (HHs.out.below hb)
      have HB6 := Lib.hid (below_step HB4.out (below_step HB45.out hb))
      have HBox6 := Lib.hid (whole_below HBox4.out (below_step HB45.out hb))
      clear hh hb b0 b6 b8
      have b6 := HBox6.out.cell 6
      have b8 := HBox6.out.cell 8
      rw [List.getElem?_toArray] at b6 b8
      rw [HOk.out.c6, ← Hna.out] at b6
      rw [HOk.out.c8, ← Hml.out] at b8
      have b6a : (w6.alloc (.cells #[.string id, .string na, .slice x.mo ml x.mc, .slice none 0 0] 31)).cell? ⟨gx, 6, none⟩ = some (.string na) := (cell_below ((Below.refl _ _).alloc (Nat.le_refl _) _) HBox6.out.lt).trans b6
      go_wp2_with fail
      obtain ⟨gw, Hgw⟩ : ∃ g, Hid (g = w6.heap.size) := ⟨_, Lib.hid rfl⟩
      obtain ⟨w7, Hw7⟩ : ∃ w, Hid (w = w6.alloc (.cells #[.string id, .string na, .slice x.mo ml x.mc, .slice none 0 0] 31)) := ⟨_, Lib.hid rfl⟩
      have HWw : Hid (Whole w7 gw 31 #[.string id, .string na, .slice x.mo ml x.mc, .slice none 0 0]) := Lib.hid (by rw [Hw7.out, Hgw.out]; exact Whole.new _ _ _)
      have HB67 : Hid (Below w6.heap.size w6 w7) := Lib.hid (by rw [Hw7.out]; exact (Below.refl _ _).alloc (Nat.le_refl _) _)
      rw [← Hw7.out, ← Hgw.out]
      clear b6a b6 b8
      have HOnG := on_any go gc G na (by rw [HGl.out]; omega) HGm.out w7 (HGs.out.below HB67.out)
      obtain ⟨f, Hf⟩ : ∃ f, Hid (f = (H.filter (onB na)).length) := ⟨_, Lib.hid rfl⟩
      have hf1 : (G.filter (onB na)).length = f + 1 := by
        rw [HG.out, List.filter_append, List.length_append, ← Hf.out]
        congr 1
        have : onB na ⟨id, na, x.members, []⟩ = true := by
          unfold onB
          rw [decide_eq_true rfl, Hld.out_fresh ⟨rfl, hx0⟩]
          rfl
        rw [List.filter_cons_of_pos this]
        rfl
      rw [hf1, HGl.out] at HOnG
      refine HOnG.mono ?_
      rintro e w8 ⟨oo, oc, rfl, hb⟩
      have HB8 := Lib.hid (below_step HB67.out hb)
      have HB68 := Lib.hid (below_step HB6.out HB8.out)
      have HW8 := Lib.hid (whole_below HWw.out hb)
      have HBox8 := Lib.hid (whole_below HBox6.out HB8.out)
      have HHs8 := Lib.hid (HHs6.out.below HB8.out)
      have HGs8 := Lib.hid (HGs.out.below HB8.out)
      clear hb
      go_wp2_with fail
      have hqG : q < G.length := by rw [HGl.out]; omega
      obtain ⟨bg, og, hgo, hbg, -, hsN⟩ := holds_from HGs8.out hqG
      subst hgo
      have HNg : Hid (G[q] = ⟨id, na, x.members, []⟩) := Lib.hid (by
        have e : q = H.length := Hq.out
        subst e
        simp only [HG.out, List.getElem_concat_length])
      rw [HNg.out] at hsN
      have HSN := Lib.hid hsN
      have HST : Hid (IsHolds w8 (some ⟨bg, og, none⟩) H) := Lib.hid (by
        have := HGs8.out
        rw [HG.out] at this
        exact holds_take this)
      have HIx := Lib.hid (HXm.out.below HB68.out)
      have HSm1 : Hid (∀ Y, Below w8.heap.size w8 Y → Calls Try.prog 15 #[.slice (some ⟨bg, og, none⟩) q gc, .slice ho q hc] Y fun e w' => e = .returned (.bool true) ∧ Below Y.heap.size Y w') := Lib.hid (fun Y hY => by
        rw [Hq.out]
        exact same_true _ _ gc hc H (by rw [← Hq.out]; omega) (fun h hh => by have := HHm.out h hh; omega) Y (HST.out.below hY) (HHs8.out.below hY))
      have HSm2 : Hid (∀ Y, Below w8.heap.size w8 Y → Calls Try.prog 15 #[.slice (some ⟨bg, og + q * 4, none⟩) 1 (gc - q), .slice (some ⟨Y.heap.size, 0, none⟩) 1 1] (Y.alloc (.cells #[.string id, .string na, .slice x.mo ml x.mc, .slice none 0 0] 31)) fun e w' => e = .returned (.bool true) ∧ Below (Y.alloc (.cells #[.string id, .string na, .slice x.mo ml x.mc, .slice none 0 0] 31)).heap.size (Y.alloc (.cells #[.string id, .string na, .slice x.mo ml x.mc, .slice none 0 0] 31)) w') := Lib.hid (fun Y hY => by
        have hY2 := below_alloc hY (.cells #[.string id, .string na, .slice x.mo ml x.mc, .slice none 0 0] 31)
        have hw := Whole.new Y 31 #[.string id, .string na, .slice x.mo ml x.mc, .slice none 0 0]
        rw [Hml.out] at hY2 hw ⊢
        exact same_true _ _ (gc - q) 1 [⟨id, na, x.members, []⟩] (by simp) (fun h hh => by rw [List.mem_singleton.1 hh]; have := HXl.out; exact ⟨by show x.members.length ≤ _; omega, by simp⟩) _ (HSN.out.below hY2) (holds_of_whole hw (HIx.out.below hY2) (Or.inl rfl)))
      have HOt : Hid (∀ Y, Below w8.heap.size w8 Y → Calls Try.prog 13 #[.agg #[.string id, .string na, .slice x.mo ml x.mc, .slice none 0 0]] Y fun e w' => e = .returned (.bool true) ∧ Below Y.heap.size Y w') := Lib.hid (fun Y hY => by
        have := out_any ⟨id, na, x.members, []⟩ x.mo x.mc none 0 (by simp) (by show x.members.length ≤ _; have := HXl.out; omega) Y (HIx.out.below hY) (Or.inl rfl)
        rw [Hld.out_fresh ⟨rfl, hx0⟩] at this
        rw [Hml.out]
        exact this)
      have HOn : Hid (∀ Y, Below w8.heap.size w8 Y → Calls Try.prog 16 #[.slice ho q hc, .string na] Y fun e w' => ∃ ao cap, e = .returned (.slice ao f cap) ∧ Below Y.heap.size Y w') := Lib.hid (fun Y hY => by
        rw [Hq.out, Hf.out]
        exact on_any ho hc H na (by rw [← Hq.out]; omega) (fun h hh => by have := HHm.out h hh; omega) Y (HHs8.out.below hY))
      have HSc : Hid (∀ Y, Below w8.heap.size w8 Y → Y.cell? ⟨gw, 0, none⟩ = some (.string id) ∧ Y.cell? ⟨gw, 1, none⟩ = some (.string na) ∧ Y.cell? ⟨gw, 2, none⟩ = some (.slice x.mo ml x.mc) ∧ Y.cell? ⟨gw, 3, none⟩ = some (.slice none 0 0) ∧ Y.cell? ⟨gx, 6, none⟩ = some (.string na)) := Lib.hid (fun Y hY => by
        have hw := whole_below HW8.out hY
        have hb := (whole_below HBox8.out hY).cell 6
        rw [List.getElem?_toArray, HOk.out.c6, ← Hna.out] at hb
        exact ⟨hw.cell 0, hw.cell 1, hw.cell 2, hw.cell 3, hb⟩)
      have hS0 := HSc.out w8 (Below.refl _ _)
      have HZ0 : Hid True := Lib.hid trivial
      have hf9 : f ≤ q := by rw [Hf.out, Hq.out]; exact List.length_filter_le ..
      have hwf : IntKind.i64.wrap ((f : Int) + 1) = (f : Int) + 1 := by rw [IntKind.wrap_i64]; omega
      clear hsN
      go_region_held_law (fun w' => w'.cell? ⟨gw, 0, none⟩ = some (.string id) ∧ w'.cell? ⟨gw, 1, none⟩ = some (.string na) ∧ w'.cell? ⟨gw, 2, none⟩ = some (.slice x.mo ml x.mc) ∧ w'.cell? ⟨gw, 3, none⟩ = some (.slice none 0 0) ∧ w'.cell? ⟨gx, 6, none⟩ = some (.string na)) (first | exact hS4 | exact hS3 | exact hS2 | exact hS1a | exact hS1 | exact hS0) (first
        | (have hq := HX3; go_simp; go_at_call 16; refine (HOn.out X3 HX3.out).mono ?_; rintro e X4 ⟨o4, c4, rfl, hb⟩; have HX4 : Hid (Below w8.heap.size w8 X4) := Lib.hid (below_step HX3.out hb); have hS4 := HSc.out X4 HX4.out; clear hb)
        | (have hq := HX2; go_simp; go_at_call 13; refine (HOt.out X2 HX2.out).mono ?_; rintro e X3 ⟨rfl, hb⟩; have HX3 : Hid (Below w8.heap.size w8 X3) := Lib.hid (below_step HX2.out hb); have hS3 := HSc.out X3 HX3.out; clear hb)
        | (have hq := HX1; go_simp; go_at_call 15; refine (HSm2.out X1 HX1.out).mono ?_; rintro e X2 ⟨rfl, hb⟩; have HX2 : Hid (Below w8.heap.size w8 X2) := Lib.hid (below_step (below_alloc HX1.out _) hb); have hS2 := HSc.out X2 HX2.out; clear hb)
        | (have hq := HZ0; go_simp; go_at_call 15; refine (HSm1.out _ (Below.refl _ _).drew).mono ?_; rintro e X1 ⟨rfl, hb⟩; have HX1 : Hid (Below w8.heap.size w8 X1) := Lib.hid ((Below.refl _ _).drew.trans hb); have hS1 := HSc.out X1 HX1.out; have hS1a := HSc.out (X1.alloc (.cells #[.string id, .string na, .slice x.mo ml x.mc, .slice none 0 0] 31)) (below_alloc HX1.out _); clear hb))
      all_goals
        go_wp2_with fail
        go_ret
        exact ⟨rfl, below_step HB68.out HX4.out⟩

theorem new_row (ids : List ByteArray) (io : Option Addr) (ic : Nat) (hm : ids.length * 16 ≤ 140737488351232) (recs : List Rc) (ro : Option Addr) (rc : Nat) (hn : recs.length * 480 ≤ 140737488351232) (x : Rc) (hx : RcOk x) (id : ByteArray) (hid9 : id.size ≤ 9223372036854775807) (W : World) (hi : IsStrs W io ids) (hr : IsRecs W ro recs) (hxm : IsInts W x.mo x.members) :
    Calls Try.prog 7 #[.slice io ids.length ic, .slice ro recs.length rc, .agg x.cells.toArray, .string id] W fun e w' => e = .returned (.bool true) ∧ Below W.heap.size W w' := new_any ids recs x id hid9 io ro ic rc hn hm W hi hr hx hxm

end Go.Proofs.Ytfokbcakbbdlaaa
