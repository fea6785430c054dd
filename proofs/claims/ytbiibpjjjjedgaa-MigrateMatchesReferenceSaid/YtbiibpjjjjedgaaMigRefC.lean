/- The walk of the reference implementation of package migrate: chains. -/
import Derived.Test.YtbiibpjjjjedgaaMigRefB
namespace Go.Proofs.Ytbiibpjjjjedgaa
open Go.RowKit

/-- The cells of the reference's chain: the life, the result. -/
def Cells4 (W : World) (b : Nat) (x0 x1 y0 y1 : Int) : Prop :=
  (W.cell? ⟨b, 0, none⟩ = some (.int .i64 x0) ∧ W.cell? ⟨b, 1, none⟩ = some (.int .i64 x1)) ∧ (W.cell? ⟨b + 1, 0, none⟩ = some (.int .i64 y0) ∧ W.cell? ⟨b + 1, 1, none⟩ = some (.int .i64 y1)) ∧
  (W.frozen? ⟨b, 0, none⟩ = false ∧ W.frozen? ⟨b, 1, none⟩ = false) ∧ (W.frozen? ⟨b + 1, 0, none⟩ = false ∧ W.frozen? ⟨b + 1, 1, none⟩ = false)
theorem Cells4.below {A B : World} {b : Nat} {x0 x1 y0 y1 : Int} (h : Cells4 A b x0 x1 y0 y1) (hb : Below A.heap.size A B) : Cells4 B b x0 x1 y0 y1 := by
  obtain ⟨⟨h1, h2⟩, ⟨h3, h4⟩, ⟨h6, h7⟩, h8, h9⟩ := h
  have l1 := lt_of_cell h1
  have l3 := lt_of_cell h3
  exact ⟨⟨(hb.cell (p := ⟨b, 0, none⟩) l1).trans h1, (hb.cell (p := ⟨b, 1, none⟩) l1).trans h2⟩, ⟨(hb.cell (p := ⟨b + 1, 0, none⟩) l3).trans h3, (hb.cell (p := ⟨b + 1, 1, none⟩) l3).trans h4⟩,
    ⟨(hb.frozen (p := ⟨b, 0, none⟩) l1).trans h6, (hb.frozen (p := ⟨b, 1, none⟩) l1).trans h7⟩, (hb.frozen (p := ⟨b + 1, 0, none⟩) l3).trans h8, (hb.frozen (p := ⟨b + 1, 1, none⟩) l3).trans h9⟩
theorem Cells4.life {A : World} {b : Nat} {x0 x1 y0 y1 : Int} (h : Cells4 A b x0 x1 y0 y1) (u v : Int) : Cells4 ((A.setCell ⟨b, 0, none⟩ (.int .i64 u)).setCell ⟨b, 1, none⟩ (.int .i64 v)) b u v y0 y1 := by
  obtain ⟨⟨h1, h2⟩, ⟨h3, h4⟩, ⟨h6, h7⟩, h8, h9⟩ := h
  have e1 : (A.setCell ⟨b, 0, none⟩ (.int .i64 u)).cell? ⟨b, 1, none⟩ = some (.int .i64 x1) := by rw [World.cell?_setCell_other _ _ _ _ (by simp), h2]
  refine ⟨⟨?_, ?_⟩, ⟨?_, ?_⟩, ⟨?_, ?_⟩, ?_, ?_⟩
  · rw [World.cell?_setCell_other _ _ _ _ (by simp), World.cell?_setCell_same _ _ _ h1]
  · rw [World.cell?_setCell_same _ _ _ e1]
  · rw [World.cell?_setCell_other _ _ _ _ (by simp), World.cell?_setCell_other _ _ _ _ (by simp), h3]
  · rw [World.cell?_setCell_other _ _ _ _ (by simp), World.cell?_setCell_other _ _ _ _ (by simp), h4]
  all_goals rw [World.frozen?_setCell, World.frozen?_setCell]; assumption

set_option maxHeartbeats 2000000 in
theorem refChain_bad (l h : Int) (n : Nat) (hn : n ≤ 9223372036854775807) (hbad : Mig.usedB l h = false ∨ n = 0 ∨ 60 < n) (ao : Option Addr) (cap : Nat) (w : World) :
    Calls Try.prog 14 #[.agg #[.int .i64 l, .int .i64 h], .slice ao n cap] w
      fun e w' => e = .returned (.tuple #[.agg #[.int .i64 0, .int .i64 0], .int .i64 1]) ∧ Below w.heap.size w w' := by
  have hcase : Mig.usedB l h = false ∨ (Mig.usedB l h = true ∧ n = 0) ∨ (Mig.usedB l h = true ∧ 60 < n) := by
    cases hu : Mig.usedB l h
    · exact Or.inl rfl
    · rw [hu] at hbad
      rcases hbad with h1 | h1 | h1
      · cases h1
      · exact Or.inr (Or.inl ⟨rfl, h1⟩)
      · exact Or.inr (Or.inr ⟨rfl, h1⟩)
  clear hbad
  rcases hcase with hu | ⟨hu, rfl⟩ | ⟨hu, hn2⟩
  · go_enter Try.func14, Try.ntmps14
    go_wp2_with fail
    refine (refUsed_any _ _ _).mono ?_
    rintro e w1 ⟨rfl, hb⟩
    obtain ⟨⟨f1, f2⟩, ⟨f3, f4, f5, f6⟩, hz, hbw⟩ := mig_cells hb
    clear hb
    go_wp2
    refine bodyPost_ret (v := .tuple #[.agg #[.int .i64 0, .int .i64 0], .int .i64 1]) (by simp [results, Try.results14, go_sem, f3, f4]) rfl ⟨rfl, ?_⟩
    exact (hbw.setCell (by show w.heap.size ≤ w.heap.size + 1; omega) _).setCell (by show w.heap.size ≤ w.heap.size + 1; omega) _
  · go_enter Try.func14, Try.ntmps14
    go_wp2_with fail
    refine (refUsed_any _ _ _).mono ?_
    rintro e w1 ⟨rfl, hb⟩
    obtain ⟨⟨f1, f2⟩, ⟨f3, f4, f5, f6⟩, hz, hbw⟩ := mig_cells hb
    clear hb
    go_wp2
    refine bodyPost_ret (v := .tuple #[.agg #[.int .i64 0, .int .i64 0], .int .i64 1]) (by simp [results, Try.results14, go_sem, f3, f4]) rfl ⟨rfl, ?_⟩
    exact (hbw.setCell (by show w.heap.size ≤ w.heap.size + 1; omega) _).setCell (by show w.heap.size ≤ w.heap.size + 1; omega) _
  · have hn3 : ¬ (n : Int) < 1 := by omega
    have hn4 : (60 : Int) < n := by omega
    go_enter Try.func14, Try.ntmps14
    go_wp2_with fail
    refine (refUsed_any _ _ _).mono ?_
    rintro e w1 ⟨rfl, hb⟩
    obtain ⟨⟨f1, f2⟩, ⟨f3, f4, f5, f6⟩, hz, hbw⟩ := mig_cells hb
    clear hb
    go_wp2
    refine bodyPost_ret (v := .tuple #[.agg #[.int .i64 0, .int .i64 0], .int .i64 1]) (by simp [results, Try.results14, go_sem, f3, f4]) rfl ⟨rfl, ?_⟩
    exact (hbw.setCell (by show w.heap.size ≤ w.heap.size + 1; omega) _).setCell (by show w.heap.size ≤ w.heap.size + 1; omega) _

set_option maxRecDepth 100000 in
set_option maxHeartbeats 8000000 in
theorem refChain_good (l h : Int) (zs : List Int) (hu : Mig.usedB l h = true) (hlen1 : 1 ≤ zs.length) (hlen2 : zs.length ≤ 60) (b off cap : Nat) (w : World) (hb : b < w.heap.size)
    (hc : ∀ j, j < zs.length → w.cell? ⟨b, off + j, none⟩ = some (.int .i64 (zs[j]?.getD 0))) :
    Calls Try.prog 14 #[.agg #[.int .i64 l, .int .i64 h], .slice (some ⟨b, off, none⟩) zs.length cap] w
      fun e w' => e = .returned (.tuple #[.agg #[.int .i64 (Mig.chain l h zs).1, .int .i64 (Mig.chain l h zs).2.1], .int .i64 (Mig.chain l h zs).2.2]) ∧ Below w.heap.size w w' := by
  obtain ⟨len, Hlen⟩ : ∃ len, Hid (len = zs.length) := ⟨_, Lib.hid rfl⟩
  rw [← Hlen.out] at hlen1 hlen2 hc ⊢
  have HCz := Lib.hid hc
  clear hc
  go_enter Try.func14, Try.ntmps14
  go_wp2_with fail
  refine (refUsed_any _ _ _).mono ?_
  rintro e w1 ⟨rfl, hb1⟩
  obtain ⟨⟨f1, f2⟩, ⟨f3, f4, f5, f6⟩, hz, hbw⟩ := mig_cells hb1
  obtain ⟨hfr, g1, g2⟩ : True ∧ w1.frozen? ⟨w.heap.size, 0, none⟩ = false ∧ w1.frozen? ⟨w.heap.size, 1, none⟩ = false := by
    obtain ⟨_, hd⟩ := bcell hb1
    refine ⟨trivial, ?_, ?_⟩
    · rw [hd _ _ (by simp only [size_alloc]; omega)]; simp [frozen_alloc, Nat.add_assoc]
    · rw [hd _ _ (by simp only [size_alloc]; omega)]; simp [frozen_alloc, Nat.add_assoc]
  have HC4 : Hid (Cells4 w1 w.heap.size l h 0 0) := Lib.hid ⟨⟨f1, f2⟩, ⟨f3, f4⟩, ⟨g1, g2⟩, f5, f6⟩
  have HB1 := Lib.hid hbw
  clear hb1 g1 g2
  go_wp2
  go_loop [6] (fun i => ∃ k : Nat, k ≤ len ∧ i = .int .i64 k ∧ Hid (∀ z ∈ zs.take k, Mig.limB z = true)) (fun i => len - (intOf i).toNat)
  case atStart => exact ⟨0, by omega, rfl, Lib.hid (by simp)⟩
  case round =>
    obtain ⟨k, hk, rfl, Hk⟩ := hrel
    by_cases hlt : k < len
    · have hck : w1.cell? ⟨b, off + k, none⟩ = some (.int .i64 (zs[k]?.getD 0)) := by rw [HB1.out.cell (p := ⟨b, off + k, none⟩) hb]; exact HCz.out k hlt
      have hkz : k < zs.length := by rw [← Hlen.out]; exact hlt
      obtain ⟨z, Hz⟩ : ∃ z, Hid (z = zs[k]?.getD 0) := ⟨_, Lib.hid rfl⟩
      rw [← Hz.out] at hck
      have Hmem : Hid (z ∈ zs) := Lib.hid (by rw [Hz.out, List.getElem?_eq_getElem hkz]; exact List.getElem_mem _)
      have Htake : Hid (zs.take (k + 1) = zs.take k ++ [z]) := Lib.hid (by rw [List.take_succ_eq_append_getElem hkz, Hz.out, List.getElem?_eq_getElem hkz]; rfl)
      cases hl : Mig.limB z
      · have Hbad : Hid (Mig.chain l h zs = (0, 0, 1)) := Lib.hid (by
          unfold Mig.chain
          rw [if_neg]
          intro hh
          have := (Mig.chainOk_iff.1 hh).2.2.2 z Hmem.out
          rw [Mig.lim_iff.2 this] at hl
          cases hl)
        go_wp2_with (go_at_call 34; refine (refLimit_any _ _).mono ?_; rintro e w2 ⟨rfl, rfl⟩)
        refine bodyPost_ret (v := .tuple #[.agg #[.int .i64 0, .int .i64 0], .int .i64 1]) (by simp [results, Try.results14, go_sem, f3, f4]) rfl ⟨by rw [Hbad.out], ?_⟩
        exact (HB1.out.setCell (by show w.heap.size ≤ w.heap.size + 1; omega) _).setCell (by show w.heap.size ≤ w.heap.size + 1; omega) _
      · go_wp2_with (go_at_call 34; refine (refLimit_any _ _).mono ?_; rintro e w2 ⟨rfl, rfl⟩)
        go_round
        case rel => exact ⟨k + 1, by omega, by go_num, Lib.hid (fun x hx => by
          rw [Htake.out] at hx
          rcases List.mem_append.1 hx with h1 | h1
          · exact Hk.out x h1
          · rw [List.mem_singleton.1 h1]; exact hl)⟩
        case measure => simp [intOf]; omega
    · obtain rfl : len = k := by omega
      have Hok : Hid (Mig.chain l h zs = (match Mig.run (l, h) (Mig.pairs zs (zs.length - 1)) with | some t => (t.1, t.2, 0) | none => (0, 0, 7))) := Lib.hid (by
        unfold Mig.chain
        refine if_pos (Mig.chainOk_iff.2 ⟨Mig.used_iff.1 hu, by rw [← Hlen.out]; exact hlen1, by rw [← Hlen.out]; exact hlen2, fun z hz => Mig.lim_iff.1 (Hk.out z (by rw [Hlen.out, List.take_length]; exact hz))⟩))
      have Hpos : Hid (∀ z ∈ zs, 1 ≤ z ∧ z ≤ 1000000000000) := Lib.hid (fun z hz => Mig.lim_iff.1 (Hk.out z (by rw [Hlen.out, List.take_length]; exact hz)))
      clear Hk f1 f2 f3 f4 f5 f6
      go_wp2
      go_loopw [7] (fun i wr => ∃ k : Nat, k + 1 ≤ len ∧ i = .int .i64 ((k + 1 : Nat) : Int) ∧ ∃ t : Int × Int, Hid (Mig.run (l, h) (Mig.pairs zs k) = some t) ∧ Hid (Cells4 wr w.heap.size t.1 t.2 0 0) ∧ Hid (Below w.heap.size w wr)) (fun i _ => len - (intOf i).toNat)
      case atStart => exact ⟨0, by omega, rfl, (l, h), Lib.hid rfl, HC4, HB1⟩
      case round =>
        obtain ⟨k, hk, rfl, ⟨t1, t2⟩, Hrun, HCl, HB⟩ := hrel
        by_cases hlt : k + 1 < len
        · obtain ⟨x1, Hx1⟩ : ∃ z, Hid (z = zs[k]?.getD 0) := ⟨_, Lib.hid rfl⟩
          obtain ⟨x2, Hx2⟩ : ∃ z, Hid (z = zs[k + 1]?.getD 0) := ⟨_, Lib.hid rfl⟩
          have hz1 : wr.cell? ⟨b, off + k, none⟩ = some (.int .i64 x1) := by rw [HB.out.cell (p := ⟨b, off + k, none⟩) hb, HCz.out k (by omega), Hx1.out]
          have hz2 : wr.cell? ⟨b, off + (k + 1), none⟩ = some (.int .i64 x2) := by rw [HB.out.cell (p := ⟨b, off + (k + 1), none⟩) hb, HCz.out (k + 1) (by omega), Hx2.out]
          obtain ⟨⟨d1, d2⟩, -⟩ := HCl.out
          dsimp only at d1 d2
          have lb := lt_of_cell hz1
          have lw := lt_of_cell d1
          have HS := Lib.hid (fun W => refScale_any t1 t2 x1 x2 W)
          obtain ⟨er, Her⟩ : ∃ x, Hid (x = Mig.err t1 t2 x1 x2) := ⟨_, Lib.hid rfl⟩
          obtain ⟨u, Hu⟩ : ∃ x, Hid (x = Mig.lo t1 t2 x1 x2) := ⟨_, Lib.hid rfl⟩
          obtain ⟨v, Hv⟩ : ∃ x, Hid (x = Mig.hi t1 t2 x1 x2) := ⟨_, Lib.hid rfl⟩
          rw [← Her.out, ← Hu.out, ← Hv.out] at HS
          have q2 : (k : Int) < len := by omega
          have q3 : (k : Int) + 1 < len := by omega
          have q6 : IntKind.i64.wrap (k : Int) = (k : Int) := by rw [IntKind.wrap_i64]; omega
          go_wp2
          apply wp_region_freshT 14 1 1 63 (fun _ => #[.int .i64 0, .int .i64 0]) (fun _ => #[.int .i64 u, .int .i64 v]) (fun _ => .int .i64 er) _ (by kernel_rfl) (by kernel_rfl) rfl
          · intro w0 h0
            have z0 := h0.size
            have p1 : ∀ X : Grown w0, X.w.cell? ⟨b, off + k, none⟩ = some (.int .i64 x1) := fun X => by rw [X.cell (by omega), h0.cell (p := ⟨b, off + k, none⟩) lb, hz1]
            have p2 : ∀ X : Grown w0, X.w.cell? ⟨b, off + (k + 1), none⟩ = some (.int .i64 x2) := fun X => by rw [X.cell (by omega), h0.cell (p := ⟨b, off + (k + 1), none⟩) lb, hz2]
            have p3 : ∀ X : Grown w0, X.w.cell? ⟨w.heap.size, 0, none⟩ = some (.int .i64 t1) := fun X => by rw [X.cell (by omega), h0.cell (p := ⟨w.heap.size, 0, none⟩) lw, d1]
            have p4 : ∀ X : Grown w0, X.w.cell? ⟨w.heap.size, 1, none⟩ = some (.int .i64 t2) := fun X => by rw [X.cell (by omega), h0.cell (p := ⟨w.heap.size, 1, none⟩) lw, d2]
            clear h0
            simp only [List.take_succ_cons, List.take_zero]
            repeat (go_big_quiet_step ((go_at_call 12; with_reducible exact grown_of (HS.out _))))
            exact wpQuiet_nil rfl
          · intro j hj o ho
            have hj0 : j = 0 := by omega
            subst hj0
            simp only [List.getElem?_cons_succ, List.getElem?_cons_zero, Option.some.injEq] at ho
            subst ho
            exact ⟨_, fun ρ w' => run_alloc_ivl _ _ _ _ _ ρ w'⟩
          · intro j hj o ho A bb w' hP hV hle hz
            have hj0 : j = 0 := by omega
            subst hj0
            have h0 := (hz 0 (by decide)).1
            have h1 := (hz 1 (by decide)).1
            have g0 := (hz 0 (by decide)).2
            have g1 := (hz 1 (by decide)).2
            simp only [List.getElem?_cons_succ, List.getElem?_cons_zero, Option.some.injEq] at ho
            subst ho
            exact ⟨_, run_store_ivl _ _ _ _ _ _ _ A bb _ _ _ _ w' (hP _ rfl) ((hV _ (by decide) (by simp [dstOf])).trans rfl) h0 h1 g0 g1, stores_done rfl hle h0 h1 g0 g1⟩
          · intro j hj o ho A w' hs
            have hj0 : j = 0 := by omega
            subst hj0
            simp only [List.getElem?_cons_succ, List.getElem?_cons_zero, Option.some.injEq] at ho
            subst ho
            have hh := hs 56 (by decide)
            simp only [execOp, hh]
            rfl
          · rintro bb w' ⟨hbl, hhi, hlo, hcl, hoth⟩
            have k00 : w'.cell? ⟨bb 0, 0, none⟩ = some (.int .i64 u) := (hcl 0 (by omega) 0 (by decide)).1
            have k01 : w'.cell? ⟨bb 0, 1, none⟩ = some (.int .i64 v) := (hcl 0 (by omega) 1 (by decide)).1
            have HCn : Hid (Cells4 w' w.heap.size t1 t2 0 0) := Lib.hid (HCl.out.below hbl)
            have HBn : Hid (Below w.heap.size w w') := Lib.hid (HB.out.trans (hbl.mono HB.out.size))
            obtain ⟨⟨m1, m2⟩, ⟨m3, m4⟩, ⟨m5, m6⟩, m7, m8⟩ := HCn.out
            clear hcl hlo hhi hoth hbl hz1 hz2 d1 d2 q2 q3 q6
            simp only [ptrs, trailing, dstOf]
            have Hcase := Lib.hid (Mig.err_cases t1 t2 x1 x2)
            rw [← Her.out, ← Hu.out, ← Hv.out] at Hcase
            by_cases he : er = 0
            · have Hstep : Hid (Mig.run (l, h) (Mig.pairs zs (k + 1)) = some (u, v)) := Lib.hid (by
                rw [Mig.pairs_succ, Mig.run_snoc Hrun.out, ← Hx1.out, ← Hx2.out]
                rcases Hcase.out with h1 | h1 | h1
                · omega
                · omega
                · rw [if_pos h1.2.1, h1.2.2.2.1, h1.2.2.2.2]; rfl)
              subst he
              go_wp2
              go_roundw
              case rel => exact ⟨k + 1, by omega, by go_num, (u, v), Hstep, Lib.hid (HCn.out.life u v), Lib.hid ((HBn.out.setCell (p := ⟨w.heap.size, 0, none⟩) (Nat.le_refl _) _).setCell (p := ⟨w.heap.size, 1, none⟩) (Nat.le_refl _) _)⟩
              case measure => simp [intOf]; omega
            · have he' : (er == 0) = false := by simp [he]
              have Hres : Hid (Mig.chain l h zs = (0, 0, 7) ∧ er = 7) := Lib.hid (by
                have := stop_err hu Hpos.out Hok.out (show k + 1 ≤ zs.length - 1 by rw [← Hlen.out]; omega) rfl (Mig.pairs_succ zs k) Hrun.out (by rw [← Hx1.out, ← Hx2.out, ← Her.out]; exact he)
                rw [← Hx1.out, ← Hx2.out, ← Her.out] at this
                exact this)
              go_wp2
              refine bodyPost_ret (v := .tuple #[.agg #[.int .i64 0, .int .i64 0], .int .i64 er]) (by simp [results, Try.results14, go_sem, m3, m4]) rfl ⟨by rw [Hres.out.1, Hres.out.2], ?_⟩
              exact (HBn.out.setCell (by show w.heap.size ≤ w.heap.size + 1; omega) _).setCell (by show w.heap.size ≤ w.heap.size + 1; omega) _
        · have hke : k + 1 = len := by omega
          have Hres : Hid (Mig.chain l h zs = (t1, t2, 0)) := Lib.hid (by
            rw [Hok.out, show zs.length - 1 = k by rw [← Hlen.out]; omega, Hrun.out])
          obtain ⟨⟨m1, m2⟩, ⟨m3, m4⟩, ⟨m5, m6⟩, m7, m8⟩ := HCl.out
          dsimp only at m1 m2
          subst hke
          go_wp2
          refine bodyPost_ret (v := .tuple #[.agg #[.int .i64 t1, .int .i64 t2], .int .i64 0]) (by simp [results, Try.results14, go_sem, m3, m4]) rfl ⟨by rw [Hres.out], ?_⟩
          exact (HB.out.setCell (by show w.heap.size ≤ w.heap.size + 1; omega) _).setCell (by show w.heap.size ≤ w.heap.size + 1; omega) _

theorem refChain_any (l h : Int) (zs : List Int) (hn : zs.length ≤ 9223372036854775807) (ao : Option Addr) (cap : Nat) (w : World) (hz : IsInts w ao zs) :
    Calls Try.prog 14 #[.agg #[.int .i64 l, .int .i64 h], .slice ao zs.length cap] w
      fun e w' => e = .returned (.tuple #[.agg #[.int .i64 (Mig.chain l h zs).1, .int .i64 (Mig.chain l h zs).2.1], .int .i64 (Mig.chain l h zs).2.2]) ∧ Below w.heap.size w w' := by
  by_cases hbad : Mig.usedB l h = false ∨ zs.length = 0 ∨ 60 < zs.length
  · have e : Mig.chain l h zs = (0, 0, 1) := by
      unfold Mig.chain
      refine if_neg fun hh => ?_
      obtain ⟨h1, h2, h3, _⟩ := Mig.chainOk_iff.1 hh
      rcases hbad with h4 | h4 | h4
      · rw [Mig.used_iff.2 h1] at h4; cases h4
      · omega
      · omega
    rw [e]
    exact refChain_bad l h zs.length hn hbad ao cap w
  · have hu : Mig.usedB l h = true := by
      cases hu : Mig.usedB l h
      · exact absurd (Or.inl hu) hbad
      · rfl
    rcases hz with rfl | ⟨bk, off, rfl, hbk, hc⟩
    · exact absurd (Or.inr (Or.inl rfl)) hbad
    · exact refChain_good l h zs hu (by omega) (by omega) bk off cap w hbk (fun j hj => by rw [hc j hj, List.getElem?_eq_getElem hj]; rfl)

end Go.Proofs.Ytbiibpjjjjedgaa
