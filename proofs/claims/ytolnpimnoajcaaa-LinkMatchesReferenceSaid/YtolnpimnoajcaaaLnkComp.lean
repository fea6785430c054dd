/- link.Components, given what collected answers. -/
import Derived.Test.YtolnpimnoajcaaaLnkMap
import Derived.Test.YtolnpimnoajcaaaLnkSets
import Derived.Test.YtolnpimnoajcaaaRepNamesR
import Derived.Deep.OwnRows
namespace Go.Proofs.Ytolnpimnoajcaaa
open Go.RowKit Go.Sort
open Evt Lnk

namespace Lnk
/-- The names of each report. -/
noncomputable def namesAt (l : List Rp) (i : Nat) : List (List UInt8) := match l[i]? with | none => [] | some r => namesR r
theorem namesAt_get {l : List Rp} {i : Nat} (h : i < l.length) : namesAt l i = namesR l[i] := by unfold namesAt; rw [List.getElem?_eq_getElem h]
/-- What Components answers: the sets by shared names. -/
def CompPost (l : List Rp) (W : World) (e : Ending) (w' : World) : Prop :=
  ∃ sv r, e = .returned sv ∧ (∀ a b, a < l.length → b < l.length → (r a = r b ↔ Conn l.length (namesAt l) a b)) ∧ Sets W.heap.size w' sv (groups r l.length) ∧ Below W.heap.size W w'
end Lnk
theorem info_intL : (Try.prog.info? 3).map (fun i => (i.zero, i.size, i.bytes)) = some (some (.int .i64 0), 1, 8) := by kernel_rfl
theorem made_pC (n : Nat) : madeCells #[Value.int .i64 0] n = (pC n fun _ => 0).toArray := by
  unfold pC
  apply Array.ext'
  apply List.ext_getElem?
  intro j
  by_cases hj : j < n <;> simp [madeCells, hj, Nat.mod_one]
theorem names_short {e : Ev} (h : Sz e) : ∀ x ∈ namesE e, x.length ≤ maxLen := fun x hx => by
  unfold namesE at hx
  have hp : (bts e.part).length ≤ maxLen := Nat.le_trans h.part (by unfold maxLen; decide)
  have hi : (bts e.into).length ≤ maxLen := Nat.le_trans h.into (by unfold maxLen; decide)
  split at hx
  · split at hx
    · rw [srt_mem] at hx
      simp at hx
      rcases hx with rfl | rfl
      · exact hp
      · exact hi
    · simp at hx; rw [hx]; exact hp
  · simp at hx

theorem IsP.congr {w : World} {b n : Nat} {p q : Nat → Nat} (h : IsP w b n p) (he : ∀ j, j < n → p j = q j) : IsP w b n q := by
  have e : pC n p = pC n q := by
    apply List.ext_getElem?
    intro j
    rw [pC_get, pC_get]
    by_cases hj : j < n
    · rw [if_pos hj, if_pos hj, he j hj]
    · rw [if_neg hj, if_neg hj]
  unfold IsP at h ⊢
  rw [← e]; exact h
theorem sz_of {W : World} {oo : Option Addr} {l : List Ev} (h : IsL 14 ElEv W oo l) : ∀ e ∈ l, Sz e := fun e he => by
  obtain ⟨k, hk, rfl⟩ := List.getElem_of_mem he
  obtain ⟨_, _, _, _, _, _, h2⟩ := h.at hk
  exact h2.2
theorem Sets.base {B B' : Nat} {w : World} {v : Value} {gs : List (List Nat)} (h : Sets B w v gs) (hB : B' ≤ B) : Sets B' w v gs := by
  obtain ⟨vs, h1, h2, h3⟩ := h.ex
  exact ⟨vs, owns_baseM h1 hB, fun k hk => by obtain ⟨u, h4, h5⟩ := h2 k hk; exact ⟨u, h4, owns_baseM h5 hB⟩, h3⟩
theorem OwnS.keptL {B : Nat} {w w' : World} {v : Value} {ss : List (List UInt8)} (h : OwnS B w v ss) {b : Nat} (hb : b < B) (hg : w.grownBy w' (some b)) : OwnS B w' v ss := by
  have : v.ownBlock ≠ some b := fun e => by have := (World.ownsRow.lt h b e).1; omega
  exact World.ownsRow.kept h hg (Or.inr this)
/-- What is so while the reports are gone through. -/
structure Mid (W : World) (pb mb n : Nat) (N : Nat → List (List UInt8)) (k m : Nat) (w : World) : Prop where
  ex : ∃ p r d first cnt, Below W.heap.size W w ∧ IsP w pb n p ∧ Half n N k m p r d first ∧ IMap w mb cnt first ∧ cnt ≤ 8 * k + m
set_option maxRecDepth 100000 in
set_option maxHeartbeats 8000000 in
theorem comp_any (HCS : CollSpec) (ao : Option Addr) (l : List Rp) (cap : Nat) (hl : l.length ≤ 1000000) (W : World) (hi : IsL 2 ElRp W ao l) :
    Calls Try.prog 13 #[.slice ao l.length cap] W (CompPost l W) := by
  have HC := Lib.hid HCS
  have HI := Lib.hid hi
  have Hnm := Lib.hid (fun (r : Rp) (oo : Option Addr) (oc : Nat) (h1 : r.opts.length ≤ oc) (h2 : oc ≤ 9223372036854775807) (w : World) (h3 : IsL 14 ElEv w oo r.opts) => repNames_any r oo oc h1 h2 w h3)
  have hmm := @run_makeMap Try.prog
  clear hi HCS
  obtain ⟨N, HN⟩ : ∃ N, Hid (N = namesAt l) := ⟨_, Lib.hid rfl⟩
  obtain ⟨n, Hn⟩ : ∃ n, Hid (n = l.length) := ⟨_, Lib.hid rfl⟩
  have HPost : Hid (∀ sv r w', (∀ a b, a < n → b < n → (r a = r b ↔ Conn n N a b)) → Sets W.heap.size w' sv (groups r n) → Below W.heap.size W w' → CompPost l W (.returned sv) w') := Lib.hid (fun sv r w' h1 h2 h3 => ⟨sv, r, rfl, by rw [← Hn.out, ← HN.out]; exact h1, by rw [← Hn.out]; exact h2, h3⟩)
  rw [← Hn.out]
  rw [← Hn.out] at hl
  have hmk := run_make_row' (P := Try.prog) 55 3 (.int .i64 0) 8 Try.underlying55 info_intL rfl .i64 .i64 n (by omega) (by omega) W
  rw [made_pC] at hmk
  obtain ⟨pb, Hpb⟩ : ∃ g, Hid (g = W.heap.size) := ⟨_, Lib.hid rfl⟩
  obtain ⟨V, HV⟩ : ∃ w, Hid (w = W.alloc (.cells (pC n fun _ => 0).toArray 3)) := ⟨_, Lib.hid rfl⟩
  have HB : Hid (Below W.heap.size W V) := Lib.hid (by rw [HV.out]; exact (Below.refl _ _).alloc (Nat.le_refl _) _)
  have HP0 : Hid (IsP V pb n fun _ => 0) := Lib.hid (by rw [HV.out, Hpb.out]; exact Whole.new _ _ _)
  go_enter Try.func13, Try.ntmps13
  go_wp2_with fail
  rw [← HV.out, ← Hpb.out]
  clear hmk
  go_loopw [17] (fun i wr => ∃ k : Nat, k ≤ n ∧ i = .int .i64 k ∧ Hid (Below W.heap.size W wr ∧ IsP wr pb n fun j => if j < k then j else 0)) (fun i _ => n - (intOf i).toNat)
  case atStart => exact ⟨0, Nat.zero_le _, by go_num, Lib.hid ⟨HB.out, HP0.out.congr (fun j _ => by simp)⟩⟩
  case round =>
    obtain ⟨k, hk, rfl, HR⟩ := hrel
    by_cases hkn : k < n
    · have hd : decide ((k : Int) < n) = true := decide_eq_true (by omega)
      have hb0 : (0 : Int) ≤ k := by omega
      have hb1 : (k : Int) < n := by omega
      have cc : wr.cell? ⟨pb, k, none⟩ = some (.int .i64 ((if k < k then k else 0 : Nat) : Int)) := HR.out.2.cell hkn
      have fz := HR.out.2.frozen k
      have HP1 : Hid (IsP (wr.setCell ⟨pb, k, none⟩ (.int .i64 k)) pb n fun j => if j < k + 1 then j else 0) := Lib.hid ((HR.out.2.set k k).congr (fun j _ => by
        unfold upd
        try dsimp only
        by_cases e : j = k
        · rw [if_pos e, if_pos (by omega), e]
        · rw [if_neg e]
          by_cases h : j < k
          · rw [if_pos h, if_pos (by omega)]
          · rw [if_neg h, if_neg (by omega)]))
      have HB1 : Hid (Below W.heap.size W (wr.setCell ⟨pb, k, none⟩ (.int .i64 k))) := Lib.hid (HR.out.1.grown (grown_setL (grown_refl wr (some pb)) k _) HR.out.1.size (fun y e => by cases e; rw [Hpb.out]; exact Nat.le_refl _))
      go_wp2_with fail
      go_round
      case rel => exact ⟨k + 1, by omega, by go_num, Lib.hid ⟨HB1.out, HP1.out⟩⟩
      case measure => simp [intOf]; omega
    · obtain rfl : k = n := by omega
      have hd : decide ((k : Int) < k) = false := decide_eq_false (by omega)
      have HP1 : Hid (IsP wr pb k fun j => j) := Lib.hid (HR.out.2.congr (fun j hj => by rw [if_pos hj]))
      obtain ⟨mb, Hmb⟩ : ∃ g, Hid (g = wr.heap.size) := ⟨_, Lib.hid rfl⟩
      obtain ⟨X, HX⟩ : ∃ w, Hid (w = wr.alloc (.map #[] 0)) := ⟨_, Lib.hid rfl⟩
      have HBn : Hid (Below W.heap.size W wr) := Lib.hid HR.out.1
      have hpm : pb < mb := by rw [Hmb.out]; exact HP1.out |> fun h => Whole.lt h
      have HM0 : Hid (Mid W pb mb k N 0 0 X) := Lib.hid (by
        refine ⟨_, _, _, _, 0, by rw [HX.out]; exact below_alloc HR.out.1 _, ?_, Half.start k N, by rw [HX.out, Hmb.out]; exact IMap.made _, by omega⟩
        rw [HX.out]; exact HP1.out.below ((Below.refl _ _).alloc (Nat.le_refl _) _))
      go_wp2_with fail
      rw [← HX.out, ← Hmb.out]
      go_loopw [28] (fun i wr => ∃ q : Nat, q ≤ k ∧ i = .int .i64 q ∧ Hid (Mid W pb mb k N q 0 wr)) (fun i _ => k - (intOf i).toNat)
      case atStart => exact ⟨0, Nat.zero_le _, by go_num, HM0⟩
      case round =>
        obtain ⟨q, hq, rfl, HQ⟩ := hrel
        by_cases hqk : q < k
        · have hd2 : decide ((q : Int) < k) = true := decide_eq_true (by omega)
          have hb0 : (0 : Int) ≤ q := by omega
          have hb1 : (q : Int) < k := by omega
          have hql : q < l.length := by rw [← Hn.out]; exact hqk
          obtain ⟨bk, off, cs, rfl, hbk, hrg, oo, oc, rfl, hel, hoc1, hoc2⟩ := HI.out.at hql
          obtain ⟨y, Hy⟩ : ∃ m, Hid (m = l[q]) := ⟨_, Lib.hid rfl⟩
          rw [← Hy.out] at hrg hel hoc1
          have HBr : Hid (Below W.heap.size W wr) := Lib.hid (by obtain ⟨_, _, _, _, _, h1, _⟩ := HQ.out.ex; exact h1)
          obtain ⟨ss, Hss⟩ : ∃ ss, Hid (ss = namesR y) := ⟨_, Lib.hid rfl⟩
          have HNq : Hid (N q = ss) := Lib.hid (by rw [HN.out, namesAt_get hql, Hss.out, Hy.out])
          have Hsm : Hid (∀ s ∈ ss, s.length ≤ maxLen) := Lib.hid (fun s hs => by
            rw [Hss.out, mem_namesR] at hs
            obtain ⟨_, e, he, hse⟩ := hs
            exact names_short (sz_of hel e he) s hse)
          have hm8 : ss.length ≤ 8 := by rw [Hss.out]; exact namesR_len y
          have hrg := rangeB hrg hbk HBr.out
          have c0 := hrg 0 _ rfl
          have c1 := hrg 1 _ rfl
          rw [Nat.add_zero] at c0
          obtain ⟨U, HU⟩ : ∃ w, Hid (w = wr.alloc (.cells #[.slice oo y.opts.length oc, .bool y.doubt] 40)) := ⟨_, Lib.hid rfl⟩
          have HBU : Hid (Below wr.heap.size wr U) := Lib.hid (by rw [HU.out]; exact (Below.refl _ _).alloc (Nat.le_refl _) _)
          have HBWU := Lib.hid (below_step HBr.out HBU.out)
          have HN2 := Lib.hid (Hnm.out y oo oc hoc1 hoc2 U (hel.below stEv HBWU.out))
          rw [← Hss.out] at HN2
          obtain ⟨on, Hon⟩ : ∃ m, Hid (m = y.opts.length) := ⟨_, Lib.hid rfl⟩
          obtain ⟨yd, Hyd⟩ : ∃ m, Hid (m = y.doubt) := ⟨_, Lib.hid rfl⟩
          rw [← Hon.out] at c0 HN2 HU
          rw [← Hyd.out] at c1 HN2 HU
          obtain ⟨g, Hg⟩ : ∃ g, Hid (g = wr.heap.size) := ⟨_, Lib.hid rfl⟩
          have HWU : Hid (Whole U g 40 #[.slice oo on oc, .bool yd]) := Lib.hid (by rw [HU.out, Hg.out]; exact Whole.new _ _ _)
          obtain ⟨G, HG⟩ : ∃ g, Hid (g = U.heap.size) := ⟨_, Lib.hid rfl⟩
          have HMU : Hid (Mid W pb mb k N q 0 U) := Lib.hid (by
            obtain ⟨p, r, d, first, cnt, h1, h2, h3, h4, h5⟩ := HQ.out.ex
            exact ⟨p, r, d, first, cnt, HBWU.out, h2.below HBU.out, h3, h4.below HBU.out h4.lt, h5⟩)
          have hpG : pb < G := by rw [HG.out]; obtain ⟨p, r, d, first, cnt, h1, h2, h3, h4, h5⟩ := HMU.out.ex; exact Whole.lt h2
          have hmG : mb < G := by rw [HG.out]; obtain ⟨p, r, d, first, cnt, h1, h2, h3, h4, h5⟩ := HMU.out.ex; exact h4.lt
          have u0 := HWU.out.cell 0
          have u1 := HWU.out.cell 1
          rw [← HG.out] at HN2
          clear hrg hel hoc1
          go_wp2_with fail
          rw [← HU.out]
          refine HN2.out.mono ?_
          rintro e w3 ⟨v3, rfl, ho3, hb3⟩
          have HM3 : Hid (Mid W pb mb k N q 0 w3) := Lib.hid (by
            obtain ⟨p, r, d, first, cnt, h1, h2, h3, h4, h5⟩ := HMU.out.ex
            rw [HG.out] at hb3
            exact ⟨p, r, d, first, cnt, below_step h1 hb3, h2.below hb3, h3, h4.below hb3 h4.lt, h5⟩)
          obtain ⟨a3, c3, rfl⟩ := ho3.shape
          have HO3 := Lib.hid ho3
          obtain ⟨m, Hm⟩ : ∃ m, Hid (m = ss.length) := ⟨_, Lib.hid rfl⟩
          rw [← Hm.out] at HO3 hm8 ⊢
          clear hb3 ho3 u0 u1 c0 c1
          go_wp2_with fail
          go_loopw [36] (fun i ws => ∃ j : Nat, j ≤ m ∧ i = .int .i64 j ∧ Hid (Mid W pb mb k N q j ws ∧ OwnS G ws (.slice a3 m c3) ss)) (fun i _ => m - (intOf i).toNat)
          case atStart => exact ⟨0, Nat.zero_le _, by go_num, Lib.hid ⟨HM3.out, HO3.out⟩⟩
          case round =>
            obtain ⟨j, hj, rfl, HJ⟩ := hrel
            by_cases hjm : j < m
            · have hd3 : decide ((j : Int) < m) = true := decide_eq_true (by omega)
              have hj0 : (0 : Int) ≤ j := by omega
              have hj1 : (j : Int) < m := by omega
              have hjs : j < ss.length := by rw [← Hm.out]; exact hjm
              obtain ⟨g3, c4, hv, hnews⟩ := HJ.out.2.news (fun e => by rw [e] at hjs; simp at hjs)
              injection hv with hv1 hv2 hv3
              subst hv1
              obtain ⟨s, Hs⟩ : ∃ s, Hid (s = ss[j]) := ⟨_, Lib.hid rfl⟩
              have Hs2 : Hid (ss[j]? = some s) := Lib.hid (by rw [Hs.out]; exact List.getElem?_eq_getElem hjs)
              have cs : wr.cell? ⟨g3, j, none⟩ = some (.string ⟨s.toArray⟩) := by
                have := hnews j _ (by rw [List.getElem?_map, Hs2.out]; rfl)
                rwa [ptr_add0] at this
              have hsz : s.length ≤ maxLen := Hsm.out s (by rw [Hs.out]; exact List.getElem_mem hjs)
              obtain ⟨p, r, d, first, cnt, h1, h2, h3, h4, h5⟩ := HJ.out.1.ex
              have hlk := h4.look_ok hsz
              have Hsz := Lib.hid hsz
              have HH1 := Lib.hid h1
              have HH2 := Lib.hid h2
              have HH3 := Lib.hid h3
              have HH4 := Lib.hid h4
              have Hgq : Hid ((N q)[j]? = some s) := Lib.hid (by rw [HNq.out]; exact Hs2.out)
              clear hnews hv2 hv3 hsz h1 h2 h3 h4
              obtain ⟨fo, Hfo⟩ : ∃ x, Hid (first s = x) := ⟨_, Lib.hid rfl⟩
              rw [Hfo.out] at hlk
              cases fo with
              | some i0 =>
                have HJn := Lib.hid (join_any k pb k hl (Nat.le_refl _) p r d HH3.out.uf q i0 hqk (HH3.out.firstIn s i0 Hfo.out).1 wr HH2.out)
                rw [show ((some i0).getD 0 : Nat) = i0 from rfl, show (some i0).isSome = true from rfl] at hlk
                go_wp2_with fail
                refine HJn.out.mono ?_
                rintro e w4 ⟨rfl, p', hu', hp', hg'⟩
                have HM4 : Hid (Mid W pb mb k N q (j + 1) w4) := Lib.hid ⟨_, _, _, first, cnt, HH1.out.grown hg' HH1.out.size (fun y e => by cases e; rw [Hpb.out]; exact Nat.le_refl _), hp', HH3.out.old hqk Hgq.out Hfo.out hu', HH4.out.kept hg' (fun e => by cases e; omega), by omega⟩
                have HO4 : Hid (OwnS G w4 (.slice (some ⟨g3, 0, none⟩) m c3) ss) := Lib.hid (HJ.out.2.keptL hpG hg')
                clear hu' hp' hg'
                go_wp2_with fail
                go_round
                case rel => exact ⟨j + 1, by omega, by go_num, Lib.hid ⟨HM4.out, HO4.out⟩⟩
                case measure => simp [intOf]; omega
              | none =>
                obtain ⟨w4, hpt, hM, hg'⟩ := HH4.out.put (by unfold maxLen; omega) Hsz.out q
                have HM4 : Hid (Mid W pb mb k N q (j + 1) w4) := Lib.hid ⟨_, _, _, _, cnt + 1, HH1.out.grown hg' HH1.out.size (fun y e => by cases e; rw [Hmb.out]; exact HBn.out.size), HH2.out.kept hg' (fun e => by cases e; omega), HH3.out.new hqk Hgq.out Hfo.out, hM, by omega⟩
                have HO4 : Hid (OwnS G w4 (.slice (some ⟨g3, 0, none⟩) m c3) ss) := Lib.hid (HJ.out.2.keptL hmG hg')
                clear hM hg'
                rw [show ((none : Option Nat).getD 0 : Nat) = 0 from rfl, show (none : Option Nat).isSome = false from rfl] at hlk
                go_wp2_with fail
                go_round
                case rel => exact ⟨j + 1, by omega, by go_num, Lib.hid ⟨HM4.out, HO4.out⟩⟩
                case measure => simp [intOf]; omega
            · obtain rfl : j = m := by omega
              have hd3 : decide ((j : Int) < j) = false := decide_eq_false (by omega)
              have HM5 : Hid (Mid W pb mb k N (q + 1) 0 wr) := Lib.hid (by
                obtain ⟨p, r, d, first, cnt, h1, h2, h3, h4, h5⟩ := HJ.out.1.ex
                exact ⟨p, r, d, first, cnt, h1, h2, h3.next (by rw [HNq.out, ← Hm.out]; exact Nat.le_refl _), h4, by omega⟩)
              go_wp2_with fail
              go_round
              case rel => exact ⟨q + 1, by omega, by go_num, HM5⟩
              case measure => simp [intOf]; omega
        · obtain rfl : q = k := by omega
          have hd2 : decide ((q : Int) < q) = false := decide_eq_false (by omega)
          obtain ⟨p, r, d, first, cnt, h1, h2, h3, h4, h5⟩ := HQ.out.ex
          have HB1 := Lib.hid h1
          have HH := Lib.hid h3
          have HCl := Lib.hid (HC.out q pb q p r d hl (Nat.le_refl _) h3.uf wr h2)
          have hmf : ∀ (fn : Fn) (first cap : Array Value) (w : World), (Instr.makeFunc fn first cap).run Try.prog w = .ok (.func fn first cap) w := fun _ _ _ _ => rfl
          clear h1 h2 h3 h4 h5
          go_wp2_with fail
          refine HCl.out.mono ?_
          rintro e w5 ⟨sv, rfl, hs, hg⟩
          have HS := Lib.hid hs
          have HB5 : Hid (Below W.heap.size W w5) := Lib.hid (HB1.out.grown hg HB1.out.size (fun y e => by cases e; rw [Hpb.out]; exact Nat.le_refl _))
          clear hs hg
          go_wp2_with fail
          go_ret
          exact HPost.out sv r w5 (fun a b ha hb => HH.out.end ha hb) (HS.out.base HB1.out.size) HB5.out
end Go.Proofs.Ytolnpimnoajcaaa
