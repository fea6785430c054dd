/- ConcedePairs. -/
import Derived.Test.YtapjnbofhdljfaaConPairM
import Derived.Test.YtapjnbofhdljfaaConOthers
namespace Go.Proofs.Ytapjnbofhdljfaa
open Go.RowKit
open Cat

theorem clr_props (nm : ByteArray) (p : Prt) : (clr nm p).props = p.props := by unfold clr; split <;> rfl
theorem clr_few {nm : ByteArray} {s : List Prt} (h : FewProps s) : FewProps (s.map (clr nm)) :=
  ⟨by rw [List.length_map]; exact h.1, fun p hp => by obtain ⟨q, hq, rfl⟩ := List.mem_map.1 hp; rw [clr_props]; exact h.2 q hq⟩
theorem map_next {α β : Type} {f : α → β} {l : List α} {k : Nat} (hk : k < l.length) : (l.take (k + 1)).map f = (l.take k).map f ++ [f l[k]] := by
  rw [← List.take_append_getElem hk, List.map_append]; rfl
set_option maxRecDepth 100000 in
set_option maxHeartbeats 8000000 in
theorem pairs_law (c : List Knd) (co : Option Addr) (cc : Nat) (hlc : c.length ≤ 9223372036854775807) (hcz : ∀ k ∈ c, SzKnd k) (s : List Prt) (so : Option Addr) (sc : Nat) (hls : s.length ≤ 9223372036854775807) (hsz : ∀ p ∈ s, SzPrt p)
    (one : Int) (ho0 : 0 ≤ one) (ho1 : one < 256) (two : Int) (ht0 : 0 ≤ two) (ht1 : two < 256) (to day : Int) (W : World) (hc : IsL 3 ElKnd W co c) (hi : IsL 14 ElPrt W so s) :
    Calls Try.prog 7 #[.agg #[.slice co c.length cc], .agg #[.slice so s.length sc], .int .u8 one, .int .u8 two, .int .i64 to, .int .i64 day] W fun e w' => e = .returned (.bool true) ∧ Below W.heap.size W w' := by
  obtain ⟨i0, hi0, hz0, hz1, hz2⟩ := infoP info_part
  have HFew := Lib.hid (fun (w : World) (hw : Below W.heap.size W w) => few27_any co c cc none [] 0 so s sc hlc (by simp) hls w (hc.below stKnd hw) IsL.nil (hi.below stPrt hw))
  have HVd := Lib.hid (fun (h : s.length ≤ 1000000) (w : World) (hw : Below W.heap.size W w) => valid_any co c cc so s sc hlc h hcz hsz w (hc.below stKnd hw) (hi.below stPrt hw))
  have HP := Lib.hid (fun (bo : Option Addr) (subs : List Sb) (bc : Nat) (xo : Option Addr) (X : List Prt) (xc : Nat) (hlb : subs.length ≤ 9223372036854775807) (hf : FewProps X) (part : ByteArray) (w : World) (hw : Below W.heap.size W w) (hb : IsL 5 ElSub w bo subs) (hx : IsL 14 ElPrt w xo X) => permitted_any co c cc bo subs bc xo X xc part day hlc hlb hf w (hc.below stKnd hw) hb hx)
  have HFi := Lib.hid (fun (hf : FewProps s) (part : ByteArray) (w : World) (hw : Below W.heap.size W w) => find_any so s sc part hls hf.2 w (hi.below stPrt hw))
  have HNm := Lib.hid (fun (k sl o : ByteArray) (w : World) (hw : Below W.heap.size W w) => normal_any co c cc k sl o hlc w (hc.below stKnd hw))
  have HH := Lib.hid head_any
  have HI := Lib.hid hi
  have HSz := Lib.hid part_size
  obtain ⟨cn, Hcn⟩ : ∃ n, Hid (n = c.length) := ⟨_, Lib.hid rfl⟩
  obtain ⟨sn, Hsn⟩ : ∃ n, Hid (n = s.length) := ⟨_, Lib.hid rfl⟩
  rw [← Hcn.out, ← Hsn.out, show ([] : List Sb).length = 0 from rfl] at HFew
  rw [← Hcn.out, ← Hsn.out] at HVd
  rw [← Hcn.out] at HP
  rw [← Hsn.out] at HFi hls
  rw [← Hcn.out] at HNm
  rw [← Hcn.out, ← Hsn.out]
  clear hc hi hcz hsz
  obtain ⟨N, HN⟩ : ∃ N, Hid (N = W.heap.size) := ⟨_, Lib.hid rfl⟩
  obtain ⟨V, HV⟩ : ∃ w, Hid (w = (W.alloc (.cells #[.slice co cn cc] 24)).alloc (.cells #[.slice so sn sc] 28)) := ⟨_, Lib.hid rfl⟩
  have HB : Hid (Below W.heap.size W V) := Lib.hid (by rw [HV.out]; exact below_alloc ((Below.refl _ _).alloc (Nat.le_refl _) _) _)
  have v0 : V.cell? ⟨N, 0, none⟩ = some (.slice co cn cc) := by rw [HV.out, HN.out]; go_simp
  have v1 : V.cell? ⟨N + 1, 0, none⟩ = some (.slice so sn sc) := by rw [HV.out, HN.out]; go_simp
  have l0 := lt_of_cell v0
  have l1 := lt_of_cell v1
  go_enter Try.func7, Try.ntmps7
  go_wp2_with fail
  rw [← HN.out, ← HV.out]
  refine (HH.out V).mono ?_
  rintro e w1 ⟨rfl, hb1⟩
  have HB1 := Lib.hid hb1
  have d0 := (cellB hb1 l0).trans v0
  have d1 := (cellB hb1 l1).trans v1
  clear hb1
  go_wp2_with fail
  refine (HFew.out w1 (below_step HB.out HB1.out)).mono ?_
  rintro e w2 ⟨b2, rfl, hf, hb2⟩
  have HB2 := Lib.hid (below_step HB1.out hb2)
  clear hb2 d0 d1
  cases b2 with
  | false =>
    go_wp2_with fail
    go_ret
    exact ⟨rfl, below_step HB.out HB2.out⟩
  | true =>
  have HF := Lib.hid (show FewProps s from by
    obtain ⟨q1, q2, q3⟩ := hf rfl
    exact ⟨by rw [← Hsn.out]; omega, fun p hp => by have := q3 p hp; omega⟩)
  have hsn : sn ≤ 1000000 := by rw [Hsn.out]; exact HF.out.1
  clear hf
  have d0 := (cellB HB2.out l0).trans v0
  have d1 := (cellB HB2.out l1).trans v1
  go_wp2_with fail
  refine (HVd.out hsn w2 (below_step HB.out HB2.out)).mono ?_
  rintro e w3 ⟨b3, rfl, hg, hb3⟩
  have HG := Lib.hid hg
  have HB3 := Lib.hid (below_step HB2.out hb3)
  clear hb3 hg d0 d1
  cases b3 with
  | false =>
    go_wp2_with fail
    go_ret
    exact ⟨rfl, below_step HB.out HB3.out⟩
  | true =>
  have d1 := (cellB HB3.out l1).trans v1
  by_cases hn0 : sn = 0
  · have e0 : ((sn : Int) == 0) = true := by rw [hn0]; rfl
    go_wp2_with fail
    go_ret
    exact ⟨rfl, below_step HB.out HB3.out⟩
  have e0 : ((sn : Int) == 0) = false := by
    have : ((sn : Int) == 0) = decide ((sn : Int) = 0) := rfl
    rw [this, decide_eq_false]; omega
  go_wp2_with fail
  clear e0 d1
  obtain ⟨m1, hm1, hmn1⟩ := pick_lt (n := sn) (by omega) one ho0
  obtain ⟨m2, hm2, hmn2⟩ := pick_lt (n := sn) (by omega) two ht0
  have hml1 : m1 < s.length := by rw [← Hsn.out]; exact hmn1
  have hml2 : m2 < s.length := by rw [← Hsn.out]; exact hmn2
  obtain ⟨bk, off, cs, rfl, hbk, hra, ao, ac, rfl, -, -⟩ := HI.out.at hml1
  obtain ⟨bk2, off2, cs, hbo, hbk2, hrb, bo, bc, rfl, -, -⟩ := HI.out.at hml2
  cases hbo
  obtain ⟨a, Ha⟩ : ∃ x, Hid (x = s[m1]) := ⟨_, Lib.hid rfl⟩
  obtain ⟨b, Hb⟩ : ∃ x, Hid (x = s[m2]) := ⟨_, Lib.hid rfl⟩
  rw [← Ha.out] at hra
  rw [← Hb.out] at hrb
  obtain ⟨an, Han⟩ : ∃ x, Hid (x = a.props.length) := ⟨_, Lib.hid rfl⟩
  obtain ⟨bn, Hbn⟩ : ∃ x, Hid (x = b.props.length) := ⟨_, Lib.hid rfl⟩
  rw [← Han.out] at hra
  rw [← Hbn.out] at hrb
  have HRa := Lib.hid (rangeB hra hbk (below_step HB.out HB3.out))
  have HRb := Lib.hid (rangeB hrb hbk2 (below_step HB.out HB3.out))
  have HOa := Lib.hid (ptC_one a ao an ac)
  have HOb := Lib.hid (ptC_one b bo bn bc)
  have HMa : Hid (a ∈ s) := Lib.hid (by rw [Ha.out]; exact List.getElem_mem hml1)
  have HMb : Hid (b ∈ s) := Lib.hid (by rw [Hb.out]; exact List.getElem_mem hml2)
  clear hra hrb hbk hbk2
  obtain ⟨a0, a1, a2, a3, a4, a5, a6, ap, a7, a8, a9, aa, ab, ad⟩ := a
  obtain ⟨b0, b1, b2, b3, b4, b5, b6, bp, b7, b8, b9, ba, bb, bd⟩ := b
  apply wp_region_freshW 20 2 201 (fun _ => 45) (fun _ => zPart.toArray) (fun k => if k = 0 then (ptC ⟨a0, a1, a2, a3, a4, a5, a6, ap, a7, a8, a9, aa, ab, ad⟩ (.slice ao an ac)).toArray else (ptC ⟨b0, b1, b2, b3, b4, b5, b6, bp, b7, b8, b9, ba, bb, bd⟩ (.slice bo bn bc)).toArray) _ (by kernel_rfl) (by kernel_rfl) rfl
  · intro w0 h0
    have q1 : ∀ x : Grown w0, x.w.cell? ⟨N + 1, 0, none⟩ = some (.slice (some ⟨bk, off, none⟩) sn sc) := fun x => (cellB (below_step HB3.out (below_step h0 x.below)) l1).trans v1
    have ahr := rangeB HRa.out (lt_of_cell (HRa.out 0 _ rfl)) h0
    have bhr := rangeB HRb.out (lt_of_cell (HRb.out 0 _ rfl)) h0
    have ahl : bk < w0.heap.size := lt_of_cell (ahr 0 _ rfl)
    have bhl : bk < w0.heap.size := ahl
    have ag0 : ∀ x : Grown w0, x.w.cell? ⟨bk, off + m1 * 14, none⟩ = some (.string a0) := fun x => by rw [x.cell ahl]; exact ahr 0 _ rfl
    have ag1 : ∀ x : Grown w0, x.w.cell? ⟨bk, off + m1 * 14 + 1, none⟩ = some (.string a1) := fun x => by rw [x.cell ahl]; exact ahr 1 _ rfl
    have ag2 : ∀ x : Grown w0, x.w.cell? ⟨bk, off + m1 * 14 + 2, none⟩ = some (.string a2) := fun x => by rw [x.cell ahl]; exact ahr 2 _ rfl
    have ag3 : ∀ x : Grown w0, x.w.cell? ⟨bk, off + m1 * 14 + 3, none⟩ = some (.string a3) := fun x => by rw [x.cell ahl]; exact ahr 3 _ rfl
    have ag4 : ∀ x : Grown w0, x.w.cell? ⟨bk, off + m1 * 14 + 4, none⟩ = some (.int .i64 a4) := fun x => by rw [x.cell ahl]; exact ahr 4 _ rfl
    have ag5 : ∀ x : Grown w0, x.w.cell? ⟨bk, off + m1 * 14 + 5, none⟩ = some (.int .i64 a5) := fun x => by rw [x.cell ahl]; exact ahr 5 _ rfl
    have ag6 : ∀ x : Grown w0, x.w.cell? ⟨bk, off + m1 * 14 + 6, none⟩ = some (.bool a6) := fun x => by rw [x.cell ahl]; exact ahr 6 _ rfl
    have ag7 : ∀ x : Grown w0, x.w.cell? ⟨bk, off + m1 * 14 + 7, none⟩ = some (.slice ao an ac) := fun x => by rw [x.cell ahl]; exact ahr 7 _ rfl
    have ag8 : ∀ x : Grown w0, x.w.cell? ⟨bk, off + m1 * 14 + 8, none⟩ = some (.int .i64 a7) := fun x => by rw [x.cell ahl]; exact ahr 8 _ rfl
    have ag9 : ∀ x : Grown w0, x.w.cell? ⟨bk, off + m1 * 14 + 9, none⟩ = some (.int .i64 a8) := fun x => by rw [x.cell ahl]; exact ahr 9 _ rfl
    have ag10 : ∀ x : Grown w0, x.w.cell? ⟨bk, off + m1 * 14 + 10, none⟩ = some (.int .i64 a9) := fun x => by rw [x.cell ahl]; exact ahr 10 _ rfl
    have ag11 : ∀ x : Grown w0, x.w.cell? ⟨bk, off + m1 * 14 + 11, none⟩ = some (.int .i64 aa) := fun x => by rw [x.cell ahl]; exact ahr 11 _ rfl
    have ag12 : ∀ x : Grown w0, x.w.cell? ⟨bk, off + m1 * 14 + 12, none⟩ = some (.int .i64 ab) := fun x => by rw [x.cell ahl]; exact ahr 12 _ rfl
    have ag13 : ∀ x : Grown w0, x.w.cell? ⟨bk, off + m1 * 14 + 13, none⟩ = some (.int .i64 ad) := fun x => by rw [x.cell ahl]; exact ahr 13 _ rfl
    have bg0 : ∀ x : Grown w0, x.w.cell? ⟨bk, off + m2 * 14, none⟩ = some (.string b0) := fun x => by rw [x.cell bhl]; exact bhr 0 _ rfl
    have bg1 : ∀ x : Grown w0, x.w.cell? ⟨bk, off + m2 * 14 + 1, none⟩ = some (.string b1) := fun x => by rw [x.cell bhl]; exact bhr 1 _ rfl
    have bg2 : ∀ x : Grown w0, x.w.cell? ⟨bk, off + m2 * 14 + 2, none⟩ = some (.string b2) := fun x => by rw [x.cell bhl]; exact bhr 2 _ rfl
    have bg3 : ∀ x : Grown w0, x.w.cell? ⟨bk, off + m2 * 14 + 3, none⟩ = some (.string b3) := fun x => by rw [x.cell bhl]; exact bhr 3 _ rfl
    have bg4 : ∀ x : Grown w0, x.w.cell? ⟨bk, off + m2 * 14 + 4, none⟩ = some (.int .i64 b4) := fun x => by rw [x.cell bhl]; exact bhr 4 _ rfl
    have bg5 : ∀ x : Grown w0, x.w.cell? ⟨bk, off + m2 * 14 + 5, none⟩ = some (.int .i64 b5) := fun x => by rw [x.cell bhl]; exact bhr 5 _ rfl
    have bg6 : ∀ x : Grown w0, x.w.cell? ⟨bk, off + m2 * 14 + 6, none⟩ = some (.bool b6) := fun x => by rw [x.cell bhl]; exact bhr 6 _ rfl
    have bg7 : ∀ x : Grown w0, x.w.cell? ⟨bk, off + m2 * 14 + 7, none⟩ = some (.slice bo bn bc) := fun x => by rw [x.cell bhl]; exact bhr 7 _ rfl
    have bg8 : ∀ x : Grown w0, x.w.cell? ⟨bk, off + m2 * 14 + 8, none⟩ = some (.int .i64 b7) := fun x => by rw [x.cell bhl]; exact bhr 8 _ rfl
    have bg9 : ∀ x : Grown w0, x.w.cell? ⟨bk, off + m2 * 14 + 9, none⟩ = some (.int .i64 b8) := fun x => by rw [x.cell bhl]; exact bhr 9 _ rfl
    have bg10 : ∀ x : Grown w0, x.w.cell? ⟨bk, off + m2 * 14 + 10, none⟩ = some (.int .i64 b9) := fun x => by rw [x.cell bhl]; exact bhr 10 _ rfl
    have bg11 : ∀ x : Grown w0, x.w.cell? ⟨bk, off + m2 * 14 + 11, none⟩ = some (.int .i64 ba) := fun x => by rw [x.cell bhl]; exact bhr 11 _ rfl
    have bg12 : ∀ x : Grown w0, x.w.cell? ⟨bk, off + m2 * 14 + 12, none⟩ = some (.int .i64 bb) := fun x => by rw [x.cell bhl]; exact bhr 12 _ rfl
    have bg13 : ∀ x : Grown w0, x.w.cell? ⟨bk, off + m2 * 14 + 13, none⟩ = some (.int .i64 bd) := fun x => by rw [x.cell bhl]; exact bhr 13 _ rfl
    clear h0 ahr bhr ahl bhl
    have hb0 : (0 : Int) ≤ m1 := by omega
    have hb1 : (m1 : Int) < sn := by omega
    have hb2 : (0 : Int) ≤ m2 := by omega
    have hb3 : (m2 : Int) < sn := by omega
    simp only [List.take_succ_cons, List.take_zero]
    repeat (go_big_quiet_step (fail))
    exact wpQuiet_nil rfl
  · intro k hk o ho
    have hc : k = 0 ∨ k = 1 := by omega
    rcases hc with rfl | rfl <;>
      (simp only [List.getElem?_cons_succ, List.getElem?_cons_zero, Option.some.injEq] at ho
       subst ho
       exact fun ρ w' => run_alloc_part _ _ _ _ _ ρ w')
  · intro k hk o ho A b' w' hP hV hw
    have hc : k = 0 ∨ k = 1 := by omega
    rcases hc with rfl | rfl
    · simp only [List.getElem?_cons_succ, List.getElem?_cons_zero, Option.some.injEq] at ho
      subst ho
      exact run_store_W _ _ _ _ _ _ _ _ A b' _ _ _ w' (hP _ rfl) ((hV _ (by decide) (by simp [dstOf])).trans rfl) hw (HSz.out.trans rfl) rfl HOa.out
    · simp only [List.getElem?_cons_succ, List.getElem?_cons_zero, Option.some.injEq] at ho
      subst ho
      exact run_store_W _ _ _ _ _ _ _ _ A b' _ _ _ w' (hP _ rfl) ((hV _ (by decide) (by simp [dstOf])).trans rfl) hw (HSz.out.trans rfl) rfl HOb.out
  · intro gg X hbl hwh hoth
    obtain ⟨-, hwa⟩ := hwh 0 (by omega)
    obtain ⟨-, hwb⟩ := hwh 1 (by omega)
    obtain ⟨ga, Hga⟩ : ∃ g, Hid (g = gg 0) := ⟨_, Lib.hid rfl⟩
    obtain ⟨gb, Hgb⟩ : ∃ g, Hid (g = gg 1) := ⟨_, Lib.hid rfl⟩
    rw [← Hga.out, if_pos rfl] at hwa
    rw [← Hgb.out, if_neg (by decide)] at hwb
    have HWa := Lib.hid hwa
    have HWb := Lib.hid hwb
    have HBX := Lib.hid (below_step HB3.out hbl)
    have HGd := Lib.hid (HG.out trivial)
    clear hbl hwh hoth hwa hwb
    simp only [ptrs, dstOf, List.getElem?_toArray, List.getElem?_cons_succ, List.getElem?_cons_zero, Option.bind_some, ← Hga.out, ← Hgb.out]
    go_simp
    have d1 := (cellB HBX.out l1).trans v1
    have qa2 : X.cell? ⟨ga, 2, none⟩ = some (.string a2) := HWa.out.cell 2
    go_wp2_with fail
    refine (HFi.out HF.out a2 X (below_step HB.out HBX.out)).mono ?_
    rintro e w4 ⟨qo, qc, rfl, -, hb4⟩
    have HB4 := Lib.hid (below_step HBX.out hb4)
    have HWa4 := Lib.hid (whole_belowM HWa.out hb4)
    have HWb4 := Lib.hid (whole_belowM HWb.out hb4)
    clear hb4 d1 qa2
    obtain ⟨q, Hq⟩ : ∃ x, Hid (x = Con.got s a2) := ⟨_, Lib.hid rfl⟩
    obtain ⟨qf, Hqf⟩ : ∃ x, Hid (x = (Con.find s a2).isSome) := ⟨_, Lib.hid rfl⟩
    rw [← Hq.out, ← Hqf.out]
    obtain ⟨qn, Hqn⟩ : ∃ x, Hid (x = q.props.length) := ⟨_, Lib.hid rfl⟩
    rw [← Hqn.out]
    have HOq := Lib.hid (ptC_one q qo qn qc)
    obtain ⟨gq, Hgq⟩ : ∃ g, Hid (g = w4.heap.size) := ⟨_, Lib.hid rfl⟩
    obtain ⟨U, HU⟩ : ∃ w, Hid (w = w4.alloc (.cells (ptC q (.slice qo qn qc)).toArray 45)) := ⟨_, Lib.hid rfl⟩
    have HWU : Hid (Whole U gq 45 (ptC q (.slice qo qn qc)).toArray) := Lib.hid (by rw [HU.out, Hgq.out]; exact Whole.new _ _ _)
    have HBU : Hid (Below w4.heap.size w4 U) := Lib.hid (by rw [HU.out]; exact (Below.refl _ _).alloc (Nat.le_refl _) _)
    have HBVU := Lib.hid (below_step HB4.out HBU.out)
    have HWaU := Lib.hid (whole_belowM HWa4.out HBU.out)
    have HWbU := Lib.hid (whole_belowM HWb4.out HBU.out)
    go_wp2_with (first
      | (with_reducible show wpList _ _ _ (Oper.mk _ (Op.store 45 _ _) _ _ _ _ :: _) _ _; refine Hid.out ?_))
    refine Lib.hid ?_
    refine wpList_store_new rfl _ _ _ rfl _ (ptC q (.slice qo qn qc)).toArray rfl rfl (HSz.out.trans rfl) rfl HOq.out ?_
    rw [← HU.out, ← Hgq.out]
    have HEnd : Hid (∀ w5, Below V.heap.size V w5 → Below W.heap.size W w5) := Lib.hid (fun w5 h => below_step HB.out h)
    cases qf with
    | false =>
      go_wp2_with fail
      go_ret
      exact ⟨rfl, HEnd.out _ HBVU.out⟩
    | true =>
    have HFq : Hid (Con.find s a2 = some q) := Lib.hid (by
      obtain ⟨x, hx⟩ := Option.isSome_iff_exists.1 Hqf.out.symm
      rw [Hq.out]; unfold Con.got; rw [hx]; rfl)
    obtain ⟨qk, Hqk⟩ : ∃ x, Hid (x = q.kind) := ⟨_, Lib.hid rfl⟩
    have ua1 : U.cell? ⟨ga, 1, none⟩ = some (.string a1) := HWaU.out.cell 1
    have ua2 : U.cell? ⟨ga, 2, none⟩ = some (.string a2) := HWaU.out.cell 2
    have ua3 : U.cell? ⟨ga, 3, none⟩ = some (.string a3) := HWaU.out.cell 3
    have ub1 : U.cell? ⟨gb, 1, none⟩ = some (.string b1) := HWbU.out.cell 1
    have ub2 : U.cell? ⟨gb, 2, none⟩ = some (.string b2) := HWbU.out.cell 2
    have ub3 : U.cell? ⟨gb, 3, none⟩ = some (.string b3) := HWbU.out.cell 3
    have uq1 : U.cell? ⟨gq, 1, none⟩ = some (.string qk) := by rw [Hqk.out]; exact HWU.out.cell 1
    have uN : U.cell? ⟨N, 0, none⟩ = some (.slice co cn cc) := (cellB HBVU.out l0).trans v0
    obtain ⟨f1, e1⟩ : ∃ b, (a2.toList == b2.toList) = b := ⟨_, rfl⟩
    have ne1 : (a2.toList != b2.toList) = !f1 := by rw [bne, e1]
    obtain ⟨f2, e2⟩ : ∃ b, (a1.toList == b1.toList) = b := ⟨_, rfl⟩
    have ne2 : (a1.toList != b1.toList) = !f2 := by rw [bne, e2]
    obtain ⟨f3, e3⟩ : ∃ b, (a3.toList == b3.toList) = b := ⟨_, rfl⟩
    cases f1 with
    | false =>
      go_wp2_with fail
      go_ret
      exact ⟨rfl, HEnd.out _ HBVU.out⟩
    | true =>
    cases f2 with
    | false =>
      go_wp2_with fail
      go_ret
      exact ⟨rfl, HEnd.out _ HBVU.out⟩
    | true =>
    cases f3 with
    | true =>
      go_wp2_with fail
      go_ret
      exact ⟨rfl, HEnd.out _ HBVU.out⟩
    | false =>
    have HInto : Hid (a2 = b2) := Lib.hid (by rw [Con.eq_list] at e1; simpa using e1)
    have HKind : Hid (a1 = b1) := Lib.hid (by rw [Con.eq_list] at e2; simpa using e2)
    have HSlot : Hid (a3 ≠ b3) := Lib.hid (by rw [Con.eq_list] at e3; simpa using e3)
    obtain ⟨na, Hna⟩ : ∃ x, Hid (x = Con.normal c qk a3 a1) := ⟨_, Lib.hid rfl⟩
    have HC1 := Lib.hid (HNm.out qk a3 a1 U (HEnd.out _ HBVU.out))
    rw [← Hna.out] at HC1
    go_wp2_with fail
    clear e1 e2 e3 ne1 ne2
    refine HC1.out.mono ?_
    rintro e w5 ⟨rfl, hb5⟩
    have HB5 := Lib.hid (below_step HBVU.out hb5)
    have HUB5 := Lib.hid hb5
    clear hb5 ua1 ua2 ua3 ub1 ub2 ub3 uq1 uN
    cases na with
    | true =>
      go_wp2_with fail
      go_ret
      exact ⟨rfl, HEnd.out _ HB5.out⟩
    | false =>
    obtain ⟨nb, Hnb⟩ : ∃ x, Hid (x = Con.normal c qk b3 b1) := ⟨_, Lib.hid rfl⟩
    have HC2 := Lib.hid (HNm.out qk b3 b1 w5 (HEnd.out _ HB5.out))
    rw [← Hnb.out] at HC2
    have ub1 : w5.cell? ⟨gb, 1, none⟩ = some (.string b1) := (whole_belowM HWbU.out HUB5.out).cell 1
    have ub3 : w5.cell? ⟨gb, 3, none⟩ = some (.string b3) := (whole_belowM HWbU.out HUB5.out).cell 3
    have uq1 : w5.cell? ⟨gq, 1, none⟩ = some (.string qk) := by rw [Hqk.out]; exact (whole_belowM HWU.out HUB5.out).cell 1
    have uN : w5.cell? ⟨N, 0, none⟩ = some (.slice co cn cc) := (cellB HB5.out l0).trans v0
    go_wp2_with fail
    refine HC2.out.mono ?_
    rintro e w6 ⟨rfl, hb6⟩
    have HB6 := Lib.hid (below_step HB5.out hb6)
    have HUB6 := Lib.hid (below_step HUB5.out hb6)
    clear hb6 ub1 ub3 uq1 uN
    cases nb with
    | true =>
      go_wp2_with fail
      go_ret
      exact ⟨rfl, HEnd.out _ HB6.out⟩
    | false =>
    have HPr : Hid (Pair c s q ⟨a0, a1, a2, a3, a4, a5, a6, ap, a7, a8, a9, aa, ab, ad⟩ ⟨b0, b1, b2, b3, b4, b5, b6, bp, b7, b8, b9, ba, bb, bd⟩) := Lib.hid ⟨HGd.out, HMa.out, HMb.out, HFq.out, HInto.out, HKind.out, HSlot.out, by rw [← Hqk.out]; exact Hna.out.symm, by rw [← Hqk.out]; exact Hnb.out.symm⟩
    have ua1 : w6.cell? ⟨ga, 1, none⟩ = some (.string a1) := (whole_belowM HWaU.out HUB6.out).cell 1
    have ua3 : w6.cell? ⟨ga, 3, none⟩ = some (.string a3) := (whole_belowM HWaU.out HUB6.out).cell 3
    have ub3 : w6.cell? ⟨gb, 3, none⟩ = some (.string b3) := (whole_belowM HWbU.out HUB6.out).cell 3
    have uq1 : w6.cell? ⟨gq, 1, none⟩ = some (.string qk) := by rw [Hqk.out]; exact (whole_belowM HWU.out HUB6.out).cell 1
    obtain ⟨gs, Hgs⟩ : ∃ g, Hid (g = w6.heap.size) := ⟨_, Lib.hid rfl⟩
    obtain ⟨L, HL⟩ : ∃ w, Hid (w = w6.alloc (.cells #[.string qk, .string a3, .string a1, .string b3, .int .i64 to, .string qk, .string b3, .string a1, .string a3, .int .i64 to] 51)) := ⟨_, Lib.hid rfl⟩
    have HBL : Hid (Below w6.heap.size w6 L) := Lib.hid (by rw [HL.out]; exact (Below.refl _ _).alloc (Nat.le_refl _) _)
    have HBVL := Lib.hid (below_step HB6.out HBL.out)
    have HUBL := Lib.hid (below_step HUB6.out HBL.out)
    have HSub : Hid (IsL 5 ElSub L (some ⟨gs, 0, none⟩) (pairSubs q ⟨a0, a1, a2, a3, a4, a5, a6, ap, a7, a8, a9, aa, ab, ad⟩ ⟨b0, b1, b2, b3, b4, b5, b6, bp, b7, b8, b9, ba, bb, bd⟩ to)) := Lib.hid (by
      refine IsL.whole (t := 51) (css := [[.string qk, .string a3, .string a1, .string b3, .int .i64 to], [.string qk, .string b3, .string a1, .string a3, .int .i64 to]]) (by rw [HL.out, Hgs.out]; exact Whole.new _ _ _) rfl (by intro cs hcs; simp at hcs; rcases hcs with rfl | rfl <;> rfl) ?_
      intro k h h'
      have hk : k = 0 ∨ k = 1 := by have : k < 2 := h; omega
      rcases hk with rfl | rfl
      · unfold ElSub pairSubs; rw [Hqk.out]; rfl
      · unfold ElSub pairSubs; rw [Hqk.out]; rfl)
    obtain ⟨wt, hwt⟩ : ∃ b, decide (day ≤ to) = b := ⟨_, rfl⟩
    go_wp2_with (first
      | (with_reducible show wpList _ _ _ (Oper.mk _ (Op.load 24 _) _ _ _ _ :: _) _ _; refine Hid.out ?_))
    refine Lib.hid ?_
    rw [← HL.out, ← Hgs.out]
    have lN : L.cell? ⟨N, 0, none⟩ = some (.slice co cn cc) := (cellB HBVL.out l0).trans v0
    have lS : L.cell? ⟨N + 1, 0, none⟩ = some (.slice (some ⟨bk, off, none⟩) sn sc) := (cellB HBVL.out l1).trans v1
    have la0 : L.cell? ⟨ga, 0, none⟩ = some (.string a0) := (whole_belowM HWaU.out HUBL.out).cell 0
    have HIs := Lib.hid (fun (w : World) (hw : Below V.heap.size V w) => HI.out.below stPrt (below_step HB.out hw))
    have HP1 := Lib.hid (fun (nm : ByteArray) (w : World) (hw : Below L.heap.size L w) => HP.out (some ⟨gs, 0, none⟩) (pairSubs q ⟨a0, a1, a2, a3, a4, a5, a6, ap, a7, a8, a9, aa, ab, ad⟩ ⟨b0, b1, b2, b3, b4, b5, b6, bp, b7, b8, b9, ba, bb, bd⟩ to) 2 (some ⟨bk, off, none⟩) s sc (by unfold pairSubs; simp) HF.out nm w (below_step HB.out (below_step HBVL.out hw)) (HSub.out.below stSub hw) (HIs.out w (below_step HBVL.out hw)))
    rw [show (pairSubs q ⟨a0, a1, a2, a3, a4, a5, a6, ap, a7, a8, a9, aa, ab, ad⟩ ⟨b0, b1, b2, b3, b4, b5, b6, bp, b7, b8, b9, ba, bb, bd⟩ to).length = 2 from rfl, ← Hsn.out] at HP1
    have q1 := HP1.out a0 L (Below.refl _ _)
    rw [HPr.out.one (to := to) (day := day), hwt] at q1
    go_wp2_with fail
    refine q1.mono ?_
    rintro e w7 ⟨rfl, hb7⟩
    have HB7 := Lib.hid hb7
    clear hb7 q1 lN lS la0 ua1 ua3 ub3 uq1
    have lN : w7.cell? ⟨N, 0, none⟩ = some (.slice co cn cc) := (cellB (below_step HBVL.out HB7.out) l0).trans v0
    have lS : w7.cell? ⟨N + 1, 0, none⟩ = some (.slice (some ⟨bk, off, none⟩) sn sc) := (cellB (below_step HBVL.out HB7.out) l1).trans v1
    have lb0 : w7.cell? ⟨gb, 0, none⟩ = some (.string b0) := (whole_belowM HWbU.out (below_step HUBL.out HB7.out)).cell 0
    have q1 := HP1.out b0 w7 HB7.out
    rw [HPr.out.two (to := to) (day := day), hwt] at q1
    have nww : (wt != wt) = false := by cases wt <;> rfl
    go_wp2_with fail
    refine q1.mono ?_
    rintro e w8 ⟨rfl, hb8⟩
    have HB8 := Lib.hid (below_step HB7.out hb8)
    clear hb8 q1 lN lS lb0
    obtain ⟨G, HG⟩ : ∃ g, Hid (g = w8.heap.size) := ⟨_, Lib.hid rfl⟩
    obtain ⟨L2, HL2⟩ : ∃ w, Hid (w = w8.alloc (.cells #[.slice none 0 0] 28)) := ⟨_, Lib.hid rfl⟩
    have HK0 : Hid (Kept w8 G (.slice none 0 0) [] L2) := Lib.hid (by
      rw [HL2.out]
      exact ⟨(Below.refl _ _).alloc (Nat.le_refl _) _, Whole.newAt _ _ HG.out, [], World.ownsRow_nil _ _ _ _, Says.nil⟩)
    have HVB8 := Lib.hid (below_step HBVL.out HB8.out)
    have HWb8 := Lib.hid (whole_belowM HWbU.out (below_step HUBL.out HB8.out))
    have HWa8 := Lib.hid (whole_belowM HWaU.out (below_step HUBL.out HB8.out))
    go_wp2_with fail
    clear nww
    rw [← HG.out, ← HL2.out]
    go_loopw [21] (fun i wr => ∃ k : Nat, k ≤ sn ∧ i = .int .i64 k ∧ Hid (∃ rv, Kept w8 G rv ((s.take k).map (clr b0)) wr)) (fun i _ => sn - (intOf i).toNat)
    case atStart => exact ⟨0, Nat.zero_le _, by go_num, Lib.hid ⟨_, HK0.out⟩⟩
    case round =>
      obtain ⟨k, hk, rfl, HX0⟩ := hrel
      obtain ⟨rv, hX⟩ := HX0.out
      have HX := Lib.hid hX
      clear hX
      have HBr := Lib.hid (below_step HVB8.out HX.out.low)
      have d1 := (cellB HBr.out l1).trans v1
      by_cases hkn : k < sn
      · have hd : decide ((k : Int) < sn) = true := decide_eq_true (by omega)
        have hb0 : (0 : Int) ≤ k := by omega
        have hb1 : (k : Int) < sn := by omega
        have hkl : k < s.length := by rw [← Hsn.out]; exact hkn
        obtain ⟨bk2, off2, cs, hbo, hbk, hrg, po, pc, rfl, hpr, hp9⟩ := (HIs.out w8 HVB8.out).at hkl
        cases hbo
        obtain ⟨y, Hy⟩ : ∃ m, Hid (m = s[k]) := ⟨_, Lib.hid rfl⟩
        rw [← Hy.out] at hrg hpr hp9
        have HRg := Lib.hid (rangeB hrg hbk HX.out.low)
        have HPr8 := Lib.hid hpr
        have HP98 := Lib.hid hp9
        obtain ⟨m, Hm⟩ : ∃ m, Hid (m = y.props.length) := ⟨_, Lib.hid rfl⟩
        rw [← Hm.out] at HRg
        have HOny := Lib.hid (ptC_one y po m pc)
        obtain ⟨X, HXe⟩ : ∃ X, Hid (X = (s.take k).map (clr b0)) := ⟨_, Lib.hid rfl⟩
        rw [← HXe.out] at HX
        have hXl : X.length ≤ 1000000 := by
          rw [HXe.out, List.length_map, List.length_take]
          omega
        obtain ⟨gx, Hgx⟩ : ∃ g, Hid (g = wr.heap.size) := ⟨_, Lib.hid rfl⟩
        obtain ⟨U0, HU0⟩ : ∃ w, Hid (w = wr.alloc (.cells (ptC y (.slice po m pc)).toArray 45)) := ⟨_, Lib.hid rfl⟩
        have HWU0 : Hid (Whole U0 gx 45 (ptC y (.slice po m pc)).toArray) := Lib.hid (by rw [HU0.out]; exact Whole.newAt _ _ Hgx.out)
        have HBU0 : Hid (Below wr.heap.size wr U0) := Lib.hid (by rw [HU0.out]; exact (Below.refl _ _).alloc (Nat.le_refl _) _)
        clear hrg hpr hp9 hbk
        go_wp2_with (first
          | (with_reducible show wpList _ _ _ (Oper.mk _ (Op.load 45 _) _ _ _ _ :: _) _ _; refine wpList_load_mid rfl _ _ rfl bk (off + k * 14) rfl _ _ HRg.out Try.underlying45 rfl (HSz.out.trans rfl) ?_)
          | (with_reducible show wpList _ _ _ (Oper.mk _ (Op.store 45 _ _) _ _ _ _ :: _) _ _; refine Hid.out ?_))
        refine Lib.hid ?_
        refine wpList_store_new rfl _ _ _ rfl _ (ptC y (.slice po m pc)).toArray rfl rfl (HSz.out.trans rfl) rfl HOny.out ?_
        rw [← HU0.out, ← Hgx.out]
        obtain ⟨yn, Hyn⟩ : ∃ u, Hid (u = y.name) := ⟨_, Lib.hid rfl⟩
        have u0 : U0.cell? ⟨gx, 0, none⟩ = some (.string yn) := by rw [Hyn.out]; exact HWU0.out.cell 0
        have ub : U0.cell? ⟨gb, 0, none⟩ = some (.string b0) := (whole_belowM HWb8.out (below_step HX.out.low HBU0.out)).cell 0
        obtain ⟨bq, ebq⟩ : ∃ b, (yn.toList == b0.toList) = b := ⟨_, rfl⟩
        obtain ⟨x, Hx⟩ : ∃ x, Hid (x = clr b0 s[k]) := ⟨_, Lib.hid rfl⟩
        cases bq with
        | false =>
          obtain rfl : x = y := by
            rw [Hx.out, ← Hy.out]; unfold clr; rw [if_neg]
            rw [Con.eq_list] at ebq
            rw [← Hyn.out]
            exact of_decide_eq_false ebq
          obtain ⟨U, HU⟩ : ∃ u, Hid (u = U0) := ⟨_, Lib.hid rfl⟩
          obtain rfl := HU.out
          have HWU := HWU0
          have HEl : Hid (ElPrt w8 (ptC x (.slice po m pc)) x) := Lib.hid ⟨po, pc, by rw [Hm.out], HPr8.out, HP98.out⟩
          have HOnm := Lib.hid (ptC_oneM x po m pc)
          have HSl := Lib.hid (slice_part x po m pc)
          have HXU : Hid (Kept w8 G rv X U) := Lib.hid ⟨below_step HX.out.low HBU0.out, whole_belowM HX.out.box HBU0.out, by obtain ⟨css, h1, h2⟩ := HX.out.row; exact ⟨css, owns_belowM h1 HBU0.out, h2⟩⟩
          obtain ⟨css, hrow, hsay⟩ := HXU.out.row
          obtain ⟨ro, rcap, rfl⟩ := owns_shapeM hrow
          have HSay := Lib.hid hsay
          have hbx : U.cell? ⟨G, 0, none⟩ = some (.slice ro X.length rcap) := HXU.out.box.cell 0
          obtain ⟨Y, HY⟩ : ∃ w, Hid (w = U.alloc (.cells (ptC x (.slice po m pc)).toArray 45)) := ⟨_, Lib.hid rfl⟩
          have HBY : Hid (Below U.heap.size U Y) := Lib.hid (by rw [HY.out]; exact (Below.refl _ _).alloc (Nat.le_refl _) _)
          have HWY : Hid (Whole Y U.heap.size 45 (ptC x (.slice po m pc)).toArray) := Lib.hid (by rw [HY.out]; exact Whole.new _ _ _)
          have HRow := Lib.hid (owns_belowM hrow HBY.out)
          have hsY : G + 1 ≤ Y.heap.size := Nat.lt_of_lt_of_le HXU.out.box.lt HBY.out.size
          have HNr : Hid (∀ (i : Nat) (u : Value), (ptC x (.slice po m pc))[i]? = some u → Y.cell? ((⟨U.heap.size, 0, none⟩ : Addr).add i) = some u) := Lib.hid (by
            intro i u hu
            have e : (⟨U.heap.size, 0, none⟩ : Addr).add i = ⟨U.heap.size, i, none⟩ := by unfold Addr.add; split <;> simp_all
            rw [e, HWY.out.cell]
            simpa using hu)
          clear hrow hsay
          go_wp2_with (first
            | (with_reducible show wpList _ _ _ (Oper.mk _ (Op.load 45 _) _ _ _ _ :: _) _ _; refine wpList_load_mid rfl _ _ rfl gx 0 rfl _ _ HWU.out.range Try.underlying45 rfl (HSz.out.trans rfl) ?_)
            | (with_reducible show wpList _ _ _ (Oper.mk _ (Op.buildSlice 26 _ _) _ _ _ _ :: _) _ _; refine wpList_slice1 (u := .agg (ptC x (.slice po m pc)).toArray) rfl _ _ _ rfl rfl (HSl.out _) ?_; refine Hid.out ?_))
          refine Lib.hid ?_
          rw [← HY.out]
          go_wp2_with (at_builtin; refine wpList_append_own _ rfl _ _ 26 rfl (G + 1) 45 i0 _ 14 160 Try.underlying26 hi0 hz0 hz1 hz2 rfl (by decide) (.slice ro X.length rcap) X.length css.flatten rfl HRow.out ⟨U.heap.size, 0, none⟩ 1 1 (ptC x (.slice po m pc)) rfl rfl HNr.out HOnm.out (by unfold maxLen; omega) (by omega) hsY ?_; intro rv' w5 hown hgrow _; refine Hid.out ?_)
          refine Lib.hid ?_
          obtain ⟨hbw, hkt⟩ := HXU.out.more HBY.out HG.out HRow.out HSay.out HEl.out (ptC_len _ _) hgrow hown
          obtain ⟨so', sc', rfl⟩ := owns_shapeM hown
          have HKt := Lib.hid hkt
          have y0 := hbw.cell 0
          have y1 := hbw.frozen 0
          have HNx2 : Hid ((s.take (k + 1)).map (clr b0) = X ++ [x]) := Lib.hid (by rw [map_next hkl, ← HXe.out, ← Hx.out])
          clear hown hgrow hkt hbw hbx
          go_wp2_with fail
          go_round
          case rel => exact ⟨k + 1, by omega, by go_num, Lib.hid ⟨_, by rw [HNx2.out]; exact HKt.out⟩⟩
          case measure => simp [intOf]; omega
        | true =>
          have hxy : x = { y with into := Con.empty, slot := Con.empty } := by
            rw [Hx.out, ← Hy.out]; unfold clr; rw [if_pos]
            rw [Con.eq_list] at ebq
            rw [← Hyn.out]
            exact of_decide_eq_true ebq
          obtain ⟨U, HU⟩ : ∃ w, Hid (w = (U0.setCell ⟨gx, 2, none⟩ (.string ⟨#[]⟩)).setCell ⟨gx, 3, none⟩ (.string ⟨#[]⟩)) := ⟨_, Lib.hid rfl⟩
          have HWU : Hid (Whole U gx 45 (ptC x (.slice po m pc)).toArray) := Lib.hid (by
            rw [HU.out, hxy]
            exact (HWU0.out.set 2 (.string ⟨#[]⟩)).set 3 (.string ⟨#[]⟩))
          have HBU : Hid (Below wr.heap.size wr U) := Lib.hid (by
            have h1 : U0.grownBy (U0.setCell ⟨gx, 2, none⟩ (.string ⟨#[]⟩)) (some gx) := ⟨rfl, rfl, rfl, by simp, fun j _ hj => Below.heap_setCell _ _ _ _ (fun e => hj (by rw [e]))⟩
            have h2 : (U0.setCell ⟨gx, 2, none⟩ (.string ⟨#[]⟩)).grownBy ((U0.setCell ⟨gx, 2, none⟩ (.string ⟨#[]⟩)).setCell ⟨gx, 3, none⟩ (.string ⟨#[]⟩)) (some gx) := ⟨rfl, rfl, rfl, by simp, fun j _ hj => Below.heap_setCell _ _ _ _ (fun e => hj (by rw [e]))⟩
            rw [HU.out]
            have h3 := HBU0.out.grown h1 HBU0.out.size (fun y e => by cases e; rw [Hgx.out]; exact Nat.le_refl _)
            exact h3.grown h2 h3.size (fun y e => by cases e; rw [Hgx.out]; exact Nat.le_refl _))
          have HEl : Hid (ElPrt w8 (ptC x (.slice po m pc)) x) := Lib.hid (by
            subst hxy
            exact ⟨po, pc, by rw [Hm.out], HPr8.out, HP98.out⟩)
          clear hxy
          have HOnm := Lib.hid (ptC_oneM x po m pc)
          have HSl := Lib.hid (slice_part x po m pc)
          have HXU : Hid (Kept w8 G rv X U) := Lib.hid ⟨below_step HX.out.low HBU.out, whole_belowM HX.out.box HBU.out, by obtain ⟨css, h1, h2⟩ := HX.out.row; exact ⟨css, owns_belowM h1 HBU.out, h2⟩⟩
          obtain ⟨y2, Hy2⟩ : ∃ u, Hid (u = y.into) := ⟨_, Lib.hid rfl⟩
          obtain ⟨y3, Hy3⟩ : ∃ u, Hid (u = y.slot) := ⟨_, Lib.hid rfl⟩
          have u2 : U0.cell? ⟨gx, 2, none⟩ = some (.string y2) := by rw [Hy2.out]; exact HWU0.out.cell 2
          have u3 : U0.cell? ⟨gx, 3, none⟩ = some (.string y3) := by rw [Hy3.out]; exact HWU0.out.cell 3
          have z2 : U0.frozen? ⟨gx, 2, none⟩ = false := HWU0.out.frozen 2
          have z3 : U0.frozen? ⟨gx, 3, none⟩ = false := HWU0.out.frozen 3
          go_wp2_with (first
            | (with_reducible show wpList _ _ _ (Oper.mk _ (Op.fieldAddr 28 _ _) _ _ _ _ :: _) _ _; refine Hid.out ?_))
          refine Lib.hid ?_
          rw [← HU.out]
          clear u0 ub u2 u3 z2 z3
          obtain ⟨css, hrow, hsay⟩ := HXU.out.row
          obtain ⟨ro, rcap, rfl⟩ := owns_shapeM hrow
          have HSay := Lib.hid hsay
          have hbx : U.cell? ⟨G, 0, none⟩ = some (.slice ro X.length rcap) := HXU.out.box.cell 0
          obtain ⟨Y, HY⟩ : ∃ w, Hid (w = U.alloc (.cells (ptC x (.slice po m pc)).toArray 45)) := ⟨_, Lib.hid rfl⟩
          have HBY : Hid (Below U.heap.size U Y) := Lib.hid (by rw [HY.out]; exact (Below.refl _ _).alloc (Nat.le_refl _) _)
          have HWY : Hid (Whole Y U.heap.size 45 (ptC x (.slice po m pc)).toArray) := Lib.hid (by rw [HY.out]; exact Whole.new _ _ _)
          have HRow := Lib.hid (owns_belowM hrow HBY.out)
          have hsY : G + 1 ≤ Y.heap.size := Nat.lt_of_lt_of_le HXU.out.box.lt HBY.out.size
          have HNr : Hid (∀ (i : Nat) (u : Value), (ptC x (.slice po m pc))[i]? = some u → Y.cell? ((⟨U.heap.size, 0, none⟩ : Addr).add i) = some u) := Lib.hid (by
            intro i u hu
            have e : (⟨U.heap.size, 0, none⟩ : Addr).add i = ⟨U.heap.size, i, none⟩ := by unfold Addr.add; split <;> simp_all
            rw [e, HWY.out.cell]
            simpa using hu)
          clear hrow hsay
          go_wp2_with (first
            | (with_reducible show wpList _ _ _ (Oper.mk _ (Op.load 45 _) _ _ _ _ :: _) _ _; refine wpList_load_mid rfl _ _ rfl gx 0 rfl _ _ HWU.out.range Try.underlying45 rfl (HSz.out.trans rfl) ?_)
            | (with_reducible show wpList _ _ _ (Oper.mk _ (Op.buildSlice 26 _ _) _ _ _ _ :: _) _ _; refine wpList_slice1 (u := .agg (ptC x (.slice po m pc)).toArray) rfl _ _ _ rfl rfl (HSl.out _) ?_; refine Hid.out ?_))
          refine Lib.hid ?_
          rw [← HY.out]
          go_wp2_with (at_builtin; refine wpList_append_own _ rfl _ _ 26 rfl (G + 1) 45 i0 _ 14 160 Try.underlying26 hi0 hz0 hz1 hz2 rfl (by decide) (.slice ro X.length rcap) X.length css.flatten rfl HRow.out ⟨U.heap.size, 0, none⟩ 1 1 (ptC x (.slice po m pc)) rfl rfl HNr.out HOnm.out (by unfold maxLen; omega) (by omega) hsY ?_; intro rv' w5 hown hgrow _; refine Hid.out ?_)
          refine Lib.hid ?_
          obtain ⟨hbw, hkt⟩ := HXU.out.more HBY.out HG.out HRow.out HSay.out HEl.out (ptC_len _ _) hgrow hown
          obtain ⟨so', sc', rfl⟩ := owns_shapeM hown
          have HKt := Lib.hid hkt
          have y0 := hbw.cell 0
          have y1 := hbw.frozen 0
          have HNx2 : Hid ((s.take (k + 1)).map (clr b0) = X ++ [x]) := Lib.hid (by rw [map_next hkl, ← HXe.out, ← Hx.out])
          clear hown hgrow hkt hbw hbx
          go_wp2_with fail
          go_round
          case rel => exact ⟨k + 1, by omega, by go_num, Lib.hid ⟨_, by rw [HNx2.out]; exact HKt.out⟩⟩
          case measure => simp [intOf]; omega
      · obtain rfl : k = sn := by omega
        have hd : decide ((k : Int) < k) = false := decide_eq_false (by omega)
        obtain ⟨X, HXe⟩ : ∃ X, Hid (X = s.map (clr b0)) := ⟨_, Lib.hid rfl⟩
        have hXe : (s.take k).map (clr b0) = X := by rw [HXe.out, List.take_of_length_le (by rw [← Hsn.out]; exact Nat.le_refl _)]
        rw [hXe] at HX
        clear hXe
        obtain ⟨css, hrow, hsay⟩ := HX.out.row
        obtain ⟨ro, rcap, rfl⟩ := owns_shapeM hrow
        have HXl : Hid (IsL 14 ElPrt wr ro X) := Lib.hid ((hsay.below stPrt HX.out.low).row hrow rfl)
        have HFX : Hid (FewProps X) := Lib.hid (by rw [HXe.out]; exact clr_few HF.out)
        have HBL8 : Hid (Below L.heap.size L wr) := Lib.hid (below_step HB8.out HX.out.low)
        have HPX := Lib.hid (fun (nm : ByteArray) (w : World) (hw : Below wr.heap.size wr w) => HP.out (some ⟨gs, 0, none⟩) (pairSubs q ⟨a0, a1, a2, a3, a4, a5, a6, ap, a7, a8, a9, aa, ab, ad⟩ ⟨b0, b1, b2, b3, b4, b5, b6, bp, b7, b8, b9, ba, bb, bd⟩ to) 2 ro X rcap (by unfold pairSubs; simp) HFX.out nm w (below_step HB.out (below_step HBr.out hw)) (HSub.out.below stSub (below_step HBL8.out hw)) (HXl.out.below stPrt hw))
        rw [show (pairSubs q ⟨a0, a1, a2, a3, a4, a5, a6, ap, a7, a8, a9, aa, ab, ad⟩ ⟨b0, b1, b2, b3, b4, b5, b6, bp, b7, b8, b9, ba, bb, bd⟩ to).length = 2 from rfl] at HPX
        have d0 := (cellB HBr.out l0).trans v0
        have hbx : wr.cell? ⟨G, 0, none⟩ = some (.slice ro X.length rcap) := HX.out.box.cell 0
        have ra0 : wr.cell? ⟨ga, 0, none⟩ = some (.string a0) := (whole_belowM HWa8.out HX.out.low).cell 0
        have q1 := HPX.out a0 wr (Below.refl _ _)
        rw [show Con.permitted c (pairSubs q ⟨a0, a1, a2, a3, a4, a5, a6, ap, a7, a8, a9, aa, ab, ad⟩ ⟨b0, b1, b2, b3, b4, b5, b6, bp, b7, b8, b9, ba, bb, bd⟩ to) X a0 day = false by rw [HXe.out]; exact HPr.out.three] at q1
        clear hrow hsay
        go_wp2_with fail
        refine q1.mono ?_
        rintro e w9 ⟨rfl, hb9⟩
        have HB9 := Lib.hid hb9
        clear hb9 q1 ra0
        have q2 := HPX.out b0 w9 HB9.out
        rw [show Con.permitted c (pairSubs q ⟨a0, a1, a2, a3, a4, a5, a6, ap, a7, a8, a9, aa, ab, ad⟩ ⟨b0, b1, b2, b3, b4, b5, b6, bp, b7, b8, b9, ba, bb, bd⟩ to) X b0 day = true by rw [HXe.out]; exact HPr.out.four] at q2
        have e0 := (cellB (below_step HBr.out HB9.out) l0).trans v0
        have ebx : w9.cell? ⟨G, 0, none⟩ = some (.slice ro X.length rcap) := (whole_belowM HX.out.box HB9.out).cell 0
        have rb0 : w9.cell? ⟨gb, 0, none⟩ = some (.string b0) := (whole_belowM HWb8.out (below_step HX.out.low HB9.out)).cell 0
        go_wp2_with fail
        refine q2.mono ?_
        rintro e w10 ⟨rfl, hb10⟩
        have HB10 := Lib.hid (HEnd.out _ (below_step HBr.out (below_step HB9.out hb10)))
        clear hb10 q2
        go_wp2_with fail
        go_ret
        exact ⟨rfl, HB10.out⟩
theorem pairs_row (co : Option Addr) (c : List Knd) (cc : Nat) (hlc : c.length ≤ 9223372036854775807) (hcz : ∀ k ∈ c, SzKnd k) (so : Option Addr) (s : List Prt) (sc : Nat) (hls : s.length ≤ 9223372036854775807) (hsz : ∀ p ∈ s, SzPrt p)
    (one : Int) (ho0 : 0 ≤ one) (ho1 : one ≤ 255) (two : Int) (ht0 : 0 ≤ two) (ht1 : two ≤ 255) (to day : Int) (W : World) (hc : IsL 3 ElKnd W co c) (hi : IsL 14 ElPrt W so s) :
    Calls Try.prog 7 #[.agg #[.slice co c.length cc], .agg #[.slice so s.length sc], .int .u8 one, .int .u8 two, .int .i64 to, .int .i64 day] W fun e w' => e = .returned (.bool true) ∧ Below W.heap.size W w' :=
  pairs_law c co cc hlc hcz s so sc hls hsz one ho0 (by omega) two ht0 (by omega) to day W hc hi
end Go.Proofs.Ytapjnbofhdljfaa
