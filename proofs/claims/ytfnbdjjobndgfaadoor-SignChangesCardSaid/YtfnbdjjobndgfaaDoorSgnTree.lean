/- The walk of package sign: the levels of a tree. -/
import Derived.Test.YtfnbdjjobndgfaaDoorSgnWalksA
import Derived.Test.YtfnbdjjobndgfaaDoorGrownTail
import Derived.Test.YtfnbdjjobndgfaaDoorAppApart
import Derived.Test.YtfnbdjjobndgfaaDoorOnly
import Derived.Test.YtfnbdjjobndgfaaDoorTwo
import Derived.Deep.AppendLies
import Derived.Deep.RegionLaw
namespace Go.Proofs.YtfnbdjjobndgfaaDoor
open Go.RowKit

theorem info_str : (Tryd.prog.info? 9).map (fun i => (i.zero, i.size, i.bytes)) = some (some (.string ⟨#[]⟩), 1, 16) := by kernel_rfl
theorem info_strs : (Tryd.prog.info? 22).map (fun i => (i.zero, i.size, i.bytes)) = some (some (.slice none 0 0), 1, 24) := by kernel_rfl
def strC (l : List ByteArray) : List Value := l.map Value.string
theorem strC_snoc (l : List ByteArray) (s : ByteArray) : strC (l ++ [s]) = strC l ++ [.string s] := by simp [strC]
theorem strs_of_row {W : World} {base : Nat} {vo : Option Addr} {m vc : Nat} {l : List ByteArray} (h : W.ownsRow base 9 1 (.slice vo m vc) m (strC l)) (hm : m = l.length) : IsStrs W vo l := by
  by_cases h0 : l = []
  · subst h0; exact Or.inl rfl
  · right
    have hpos : 0 < l.length := List.length_pos_iff.2 h0
    rcases h.2 with ⟨hh, h1⟩ | ⟨g, cap, cur, hv, _, hc, _, _⟩
    · omega
    · simp only [Value.slice.injEq] at hv
      obtain ⟨rfl, -, rfl⟩ := hv
      refine ⟨g, 0, rfl, (h.lt g rfl).2, fun k hk => ?_⟩
      rw [Nat.zero_add, h.cellAt k (by omega)]
      simp [strC, hk]
theorem owns_ne' {base : Nat} {W : World} {e t : TypeId} {size k : Nat} {v : Value} {xs : List Value} {g : Nat} {cs : Array Value} (h : W.ownsRow base e size v k xs) (hg : Whole W g t cs) (hne : e ≠ t) : v.ownBlock ≠ some g := by
  rcases h.2 with ⟨rfl, _⟩ | ⟨g', cap, cur, rfl, _, hh, _⟩
  · simp [Value.ownBlock]
  · intro he
    have e1 : g' = g := by simpa [Value.ownBlock] using he
    subst e1
    have h2 : Whole W g' e cur := hh
    exact h2.apart hg hne rfl
theorem owns_succ' {w : World} {base : Nat} {e : TypeId} {size : Nat} {v : Value} {k : Nat} {xs : List Value} (h : w.ownsRow base e size v (k + 1) xs) : ∃ g cap, v = .slice (some ⟨g, 0, none⟩) (k + 1) cap := by
  rcases h.2 with ⟨_, h0⟩ | ⟨g, cap, cur, rfl, _⟩
  · omega
  · exact ⟨g, cap, rfl⟩
/-- A row keeps what it has while only newer blocks change. -/
theorem owns_below {w w' : World} {base b2 : Nat} {e : TypeId} {size : Nat} {v : Value} {n : Nat} {xs : List Value} (h : w.ownsRow base e size v n xs) (hb : Below b2 w w') (hv : ∀ g, v.ownBlock = some g → g < b2) : w'.ownsRow base e size v n xs := by
  rcases h with ⟨h1, h2 | ⟨g, cap, cur, rfl, hB, hc, rest⟩⟩
  · exact ⟨h1, Or.inl h2⟩
  · exact ⟨h1, Or.inr ⟨g, cap, cur, rfl, hB, (hb.block g (hv g rfl)).trans hc, rest⟩⟩
theorem owns_grown {w w' : World} {base : Nat} {e : TypeId} {size : Nat} {v : Value} {n : Nat} {xs : List Value} (h : w.ownsRow base e size v n xs) (hb : Below w.heap.size w w') : w'.ownsRow base e size v n xs :=
  owns_below h hb fun g hg => (h.lt g hg).2
/-- A row keeps what it has while another row grows. -/
theorem owns_by {w w' : World} {base : Nat} {e : TypeId} {size : Nat} {v : Value} {n : Nat} {xs : List Value} {g : Nat} (h : w.ownsRow base e size v n xs) (hg : w.grownBy w' (some g)) (hne : v.ownBlock ≠ some g) : w'.ownsRow base e size v n xs := by
  have hlt := h.lt
  rcases h with ⟨h1, h2 | ⟨g', cap, cur, rfl, hB, hc, rest⟩⟩
  · exact ⟨h1, Or.inl h2⟩
  · exact ⟨h1, Or.inr ⟨g', cap, cur, rfl, hB, (hg.block g' (hlt g' rfl).2 (fun e => hne (by rw [Option.some.inj e]; rfl))).trans hc, rest⟩⟩
theorem owns_base {w : World} {base b2 : Nat} {e : TypeId} {size : Nat} {v : Value} {n : Nat} {xs : List Value} (h : w.ownsRow base e size v n xs) (hb : b2 ≤ base) : w.ownsRow b2 e size v n xs := by
  rcases h with ⟨h1, h2 | ⟨g', cap, cur, rfl, hB, rest⟩⟩
  · exact ⟨h1, Or.inl h2⟩
  · exact ⟨h1, Or.inr ⟨g', cap, cur, rfl, by omega, rest⟩⟩
theorem owns_diff {w : World} {base b2 : Nat} {e e' : TypeId} {size size' : Nat} {v v' : Value} {n n' : Nat} {xs xs' : List Value} {g : Nat} (h : w.ownsRow base e size v n xs) (h' : w.ownsRow b2 e' size' v' n' xs') (hg : v'.ownBlock = some g) (hne : e ≠ e') : v.ownBlock ≠ some g := by
  rcases h'.2 with ⟨rfl, _⟩ | ⟨g', cap, cur, rfl, _, hh, _⟩
  · simp [Value.ownBlock] at hg
  · have e1 : g' = g := by simpa [Value.ownBlock] using hg
    subst e1
    exact owns_ne' h (g := g') (cs := cur) hh hne
theorem owns_cap {w : World} {base : Nat} {e : TypeId} {size : Nat} {g n cap : Nat} {xs : List Value} (h : w.ownsRow base e size (.slice (some ⟨g, 0, none⟩) n cap) n xs) : n ≤ cap := by
  rcases h.2 with ⟨hh, _⟩ | ⟨g', cap', cur, hv, _, _, hle, _⟩
  · cases hh
  · simp only [Value.slice.injEq] at hv
    omega
theorem fewE {l : List ByteArray} (h : ∀ s ∈ l, s.size ≤ 300) (hn : l.length ≤ 30) : fewB l 300 = true := (fewB_iff _ _).2 ⟨fun s hs => by have := h s hs; omega, hn⟩
theorem chain15_size (n : Nat) (s : ByteArray) (h : s.size = 16) : (Sgn.chainV n s).size = 16 := by
  cases n with
  | zero => exact h
  | succ n => exact Sgn.dg_size _
theorem startV_size (sec : ByteArray) (i k : Nat) : (Sgn.startV sec i k).size = 16 := Sgn.lst_size _

/-- The ends of a one-time key's chains, so far. -/
def endsUp (sec : ByteArray) (i k : Nat) : List ByteArray := (List.range k).map fun q => Sgn.chainV 15 (Sgn.startV sec i q)
theorem endsUp_succ (sec : ByteArray) (i k : Nat) : endsUp sec i (k + 1) = endsUp sec i k ++ [Sgn.chainV 15 (Sgn.startV sec i k)] := by
  unfold endsUp
  rw [List.range_succ, List.map_append]
  rfl
def keysUp (sec : ByteArray) (i : Nat) : List ByteArray := (List.range i).map (Sgn.keyV sec)
theorem keysUp_succ (sec : ByteArray) (i : Nat) : keysUp sec (i + 1) = keysUp sec i ++ [Sgn.keyV sec i] := by
  unfold keysUp
  rw [List.range_succ, List.map_append]
  rfl
/-- What holds while the keys are made. -/
structure KeysP (sec : ByteArray) (W : World) (gl i : Nat) (vo : Option Addr) (vc : Nat) (w : World) : Prop where
  below : Below W.heap.size W w
  cell : Whole w gl 22 #[.slice vo i vc]
  row : w.ownsRow W.heap.size 9 1 (.slice vo i vc) i (strC (keysUp sec i))
  new : W.heap.size ≤ gl

theorem wrap_pow (h : Nat) (hh : h ≤ 8) : wrap64 ((2 : Int) ^ h) = ((2 ^ h : Nat) : Int) := by
  have hc : h = 0 ∨ h = 1 ∨ h = 2 ∨ h = 3 ∨ h = 4 ∨ h = 5 ∨ h = 6 ∨ h = 7 ∨ h = 8 := by omega
  rcases hc with rfl | rfl | rfl | rfl | rfl | rfl | rfl | rfl | rfl <;> decide +kernel
/-- The levels that were made. -/
structure LevsP (sec : ByteArray) (h : Nat) (W : World) (n : Nat) (v : Value) (V : Nat → Value) (w : World) : Prop where
  below : Below W.heap.size W w
  row : w.ownsRow W.heap.size 22 1 v (n + 1) ((List.range (n + 1)).map V)
  levs : ∀ j, j ≤ n → ∃ vo vc, V j = .slice vo (Sgn.level sec h j).length vc ∧ w.ownsRow W.heap.size 9 1 (V j) (Sgn.level sec h j).length (strC (Sgn.level sec h j))
def upTo (sec : ByteArray) (h n i : Nat) : List ByteArray := (List.range i).map fun q => Sgn.nodeV (Sgn.at_ (Sgn.level sec h n) (2 * q)) (Sgn.at_ (Sgn.level sec h n) (2 * q + 1))
theorem upTo_succ (sec : ByteArray) (h n i : Nat) : upTo sec h n (i + 1) = upTo sec h n i ++ [Sgn.nodeV (Sgn.at_ (Sgn.level sec h n) (2 * i)) (Sgn.at_ (Sgn.level sec h n) (2 * i + 1))] := by
  unfold upTo
  rw [List.range_succ, List.map_append]
  rfl
/-- What a call for a tree leaves. -/
structure IsTree (sec : ByteArray) (h : Nat) (w : World) (g : Nat) : Prop where
  lt : g < w.heap.size
  levs : ∀ j, j ≤ h → ∃ vo vc, w.cell? ⟨g, j, none⟩ = some (.slice vo (Sgn.level sec h j).length vc) ∧ IsStrs w vo (Sgn.level sec h j)

set_option maxRecDepth 100000 in
set_option maxHeartbeats 8000000 in
theorem tree_any (sec : ByteArray) (hs : sec.size ≤ 300) (h : Nat) (hh : h ≤ 8) (W : World) (ht : Tab W) :
    Calls Tryd.prog 27 #[.string sec, .int .i64 h] W fun e w' => ∃ g cap, e = .returned (.slice (some ⟨g, 0, none⟩) (h + 1) cap) ∧ h + 1 ≤ cap ∧ Below W.heap.size W w' ∧ IsTree sec h w' g := by
  have HT := Lib.hid ht
  have hh' : (h : Int) ≤ 8 := by omega
  obtain ⟨N, HN⟩ : ∃ N, Hid (N = 2 ^ h) := ⟨_, Lib.hid rfl⟩
  have hN : wrap64 ((2 : Int) ^ h) = (N : Int) := by rw [HN.out]; exact wrap_pow h hh
  have hNb : N ≤ 256 := by
    rw [HN.out]
    exact Nat.pow_le_pow_right (by decide) hh
  obtain ⟨i1, hi1, hy0, hy1, hy2⟩ := info_parts info_str
  obtain ⟨j1, hj1, hz0, hz1, hz2⟩ := info_parts info_strs
  have HS := Lib.hid hs
  clear ht hs
  go_enter Tryd.func27, Tryd.ntmps27
  go_wp2
  rw [hN]
  obtain ⟨gl, Hgl⟩ : ∃ x, Hid (x = W.heap.size) := ⟨_, Lib.hid rfl⟩
  have HK0 : Hid (∃ vo vc, KeysP sec W gl 0 vo vc (W.alloc (.cells #[.slice none 0 0] 22))) := Lib.hid ⟨none, 0, below_alloc (Below.refl _ _) _, by rw [Hgl.out]; exact Whole.new _ _ _, World.ownsRow_nil _ _ _ _, by rw [Hgl.out]; exact Nat.le_refl _⟩
  rw [← Hgl.out]
  go_loopw [15] (fun a wr => ∃ i : Nat, i ≤ N ∧ a = .int .i64 i ∧ Hid (∃ vo vc, KeysP sec W gl i vo vc wr)) (fun a _ => N - (intOf a).toNat)
  case atStart => exact ⟨0, by omega, rfl, HK0⟩
  case round =>
    obtain ⟨i, hi, rfl, HK⟩ := hrel
    by_cases hlt : i < N
    · have hlt' : (i : Int) < N := by omega
      obtain ⟨wo, rfl⟩ : ∃ y, y = wr := ⟨_, rfl⟩
      obtain ⟨vo, vc, hkp⟩ := HK.out
      have HP := Lib.hid hkp
      clear hkp
      go_wp2
      go_loopw [7, 18] (fun v a wr => ∃ k : Nat, k ≤ 18 ∧ a = .int .i64 k ∧ ∃ eo ec, v = .slice eo k ec ∧ Hid (Below wo.heap.size wo wr ∧ wr.ownsRow wo.heap.size 9 1 (.slice eo k ec) k (strC (endsUp sec i k)))) (fun _ a _ => 18 - (intOf a).toNat)
      case atStart => exact ⟨0, by omega, rfl, none, 0, rfl, Lib.hid ⟨Below.refl _ _, World.ownsRow_nil _ _ _ _⟩⟩
      case round =>
        obtain ⟨k, hk, rfl, eo, ec, rfl, HE⟩ := hrel
        have HTr : Hid (Tab wr) := Lib.hid ((HT.out.below HP.out.below).below HE.out.1)
        by_cases hltk : k < 18
        · have hltk' : (k : Int) < 18 := by omega
          go_wp2_with fail
          refine (start_any sec HS.out i k (by omega) (by omega) wr HTr.out).mono ?_
          rintro e w2 ⟨rfl, hb⟩
          have HB2 := Lib.hid hb
          clear hb
          obtain ⟨sv, Hsv⟩ : ∃ x, Hid (x = Sgn.startV sec i k) := ⟨_, Lib.hid rfl⟩
          rw [← Hsv.out]
          have HC := Lib.hid (chain_any sv (by rw [Hsv.out, startV_size]; decide) 15 (by decide) w2)
          obtain ⟨cv, Hcv⟩ : ∃ x, Hid (x = Sgn.chainV 15 sv) := ⟨_, Lib.hid rfl⟩
          rw [← Hcv.out] at HC
          go_wp2_with fail
          refine HC.out.mono ?_
          rintro e w3 ⟨rfl, hb⟩
          have HB3 := Lib.hid (below_step HB2.out hb)
          clear hb
          have HR3 : Hid (w3.ownsRow wo.heap.size 9 1 (.slice eo k ec) k (strC (endsUp sec i k))) := Lib.hid (owns_grown HE.out.2 HB3.out)
          have HBo3 : Hid (Below wo.heap.size wo w3) := Lib.hid (below_step HE.out.1 HB3.out)
          have HNw : Hid (∀ (i : Nat) (u : Value), [Value.string cv][i]? = some u → (w3.alloc (.cells #[.string cv] 9)).cell? ((⟨w3.heap.size, 0, none⟩ : Addr).add i) = some u) := Lib.hid (by
            intro i u hu
            have e : (⟨w3.heap.size, 0, none⟩ : Addr).add i = ⟨w3.heap.size, i, none⟩ := by unfold Addr.add; split <;> simp_all
            rw [e, cell_alloc, if_pos rfl]
            simpa using hu)
          go_wp2_with (at_builtin; go_loud (refine wpList_append_own _ rfl (.tmp 21) (.tmp 27) 22 rfl wo.heap.size 9 i1 (.string ⟨#[]⟩) 1 16 Tryd.underlying22 hi1 hy0 hy1 hy2 rfl (by decide) _ _ _ rfl (HR3.out.alloc _) ⟨w3.heap.size, 0, none⟩ 1 1 [.string cv] rfl rfl HNw.out (by simp [Value.oneCell']) (by unfold maxLen; omega) (by omega) (by have := HBo3.out.size; rw [size_alloc]; omega) ?_); intro v' w10 hown hgrow _; obtain ⟨g', cap', rfl⟩ := owns_succ' hown; have HW10 := Lib.hid hown; have HG10 := Lib.hid hgrow; clear hown hgrow)
          go_roundw
          case rel =>
            refine ⟨k + 1, by omega, by go_num, some ⟨g', 0, none⟩, cap', rfl, Lib.hid ⟨?_, ?_⟩⟩
            · exact (HBo3.out.alloc HBo3.out.size _).grown HG10.out (by have := HBo3.out.size; rw [size_alloc]; omega) (fun j e => (HR3.out.lt j e).1)
            · rw [endsUp_succ, strC_snoc, ← Hsv.out, ← Hcv.out]
              exact HW10.out
          case measure => simp [intOf]; omega
        · obtain rfl : k = 18 := by omega
          have HSt : Hid (IsStrs wr eo (endsUp sec i 18)) := Lib.hid (strs_of_row HE.out.2 (by simp [endsUp]))
          have HKey := Lib.hid fun (w' : World) (hb : Below wr.heap.size wr w') => key_any eo (endsUp sec i 18) ec w' (HTr.out.below hb) (HSt.out.below hb) (fewE (fun s hs => by
            obtain ⟨q, _, rfl⟩ := List.mem_map.1 hs
            rw [chain15_size _ _ (startV_size _ _ _)]; decide) (by simp [endsUp]))
          have hl18 : (endsUp sec i 18).length = 18 := by simp [endsUp]
          rw [hl18] at HKey
          obtain ⟨kv, Hkv⟩ : ∃ x, Hid (x = Sgn.lst (endsUp sec i 18)) := ⟨_, Lib.hid rfl⟩
          rw [← Hkv.out] at HKey
          have HWg : Hid (Whole wr gl 22 #[.slice vo i vc]) := Lib.hid ((HE.out.1.block gl HP.out.cell.lt).trans HP.out.cell)
          have hgr := HWg.out.lt
          have p0 : wr.drew.cell? ⟨gl, 0, none⟩ = some (.slice vo i vc) := HWg.out.cell 0
          have HZ : Hid (∀ X1, Below wr.heap.size wr X1 → Below W.heap.size W X1 ∧ X1.ownsRow W.heap.size 9 1 (.slice vo i vc) i (strC (keysUp sec i)) ∧ Whole X1 gl 22 #[.slice vo i vc]) := Lib.hid fun X1 hb => by
            have hB := below_step HE.out.1 hb
            exact ⟨below_step HP.out.below hB, owns_grown HP.out.row hB, (hB.block gl HP.out.cell.lt).trans HP.out.cell⟩
          have HNw : Hid (∀ (X1 : World) (i : Nat) (u : Value), [Value.string kv][i]? = some u → (X1.alloc (.cells #[.string kv] 9)).cell? ((⟨X1.heap.size, 0, none⟩ : Addr).add i) = some u) := Lib.hid (by
            intro X1 i u hu
            have e : (⟨X1.heap.size, 0, none⟩ : Addr).add i = ⟨X1.heap.size, i, none⟩ := by unfold Addr.add; split <;> simp_all
            rw [e, cell_alloc, if_pos rfl]
            simpa using hu)
          have HKey2 : Hid (∀ X1, Below wr.heap.size wr X1 → ∀ w10 : World, (X1.alloc (.cells #[.string kv] 9)).grownBy w10 (Value.slice vo i vc).ownBlock → Below W.heap.size W w10 ∧ Whole w10 gl 22 #[.slice vo i vc]) := Lib.hid fun X1 hb w10 hgrow => by
            obtain ⟨hbw, hr, hw⟩ := HZ.out X1 hb
            have hne : (Value.slice vo i vc).ownBlock ≠ some gl := owns_ne' hr hw (by decide)
            exact ⟨(hbw.alloc hbw.size _).grown hgrow (by have := hbw.size; rw [size_alloc]; omega) (fun j e => (hr.lt j e).1), (hgrow.block gl (by rw [size_alloc]; have := hw.lt; omega) (fun hh => hne hh.symm)).trans (hw.alloc _)⟩
          clear hl18
          go_wp2_with fail
          go_region_law (first
            | (go_simp; go_at_call 39; refine (HKey.out _ (by exact (Below.refl _ _).drew)).mono ?_; rintro e X1 ⟨rfl, hb⟩; have HbX : Hid (Below wr.heap.size wr X1) := Lib.hid (below_step (Below.refl _ _).drew hb); have y1 : X1.cell? ⟨gl, 0, none⟩ = some (.slice vo i vc) := (HZ.out X1 HbX.out).2.2.cell 0; have gX : gl < X1.heap.size := (HZ.out X1 HbX.out).2.2.lt; clear hb)
            | (refine step_append_lies _ rfl (.tmp 33) (.tmp 36) 22 rfl W.heap.size 9 i1 (.string ⟨#[]⟩) 1 16 Tryd.underlying22 hi1 hy0 hy1 hy2 rfl (by decide) (.slice vo i vc) i (strC (keysUp sec i)) (by simp [Act.eval]) ((HZ.out X1 HbX.out).2.1.alloc _) ⟨X1.heap.size, 0, none⟩ 1 1 [.string kv] (by simp [Act.eval]) rfl (HNw.out X1) (by simp [Value.oneCell']) (by decide) (by unfold maxLen; omega) (by omega) (by have := (HZ.out X1 HbX.out).1.size; rw [size_alloc]; omega) _ rfl ?_; intro g' cap' w10 hown hgrow _ _; have HW10 := Lib.hid hown; have hk2 := HKey2.out X1 HbX.out w10 hgrow; have HB10 := Lib.hid hk2.1; have HC10 := Lib.hid hk2.2; have y2 : w10.cell? ⟨gl, 0, none⟩ = some (.slice vo i vc) := hk2.2.cell 0; have y3 := hk2.2.frozen 0; clear hown hgrow hk2))
          all_goals
            go_wp2
            go_roundw
            case rel =>
              refine ⟨i + 1, by omega, by go_num, Lib.hid ⟨some ⟨g', 0, none⟩, cap', Below.setCell HB10.out (p := ⟨gl, 0, none⟩) HP.out.new _, HC10.out.set 0 _, ?_, HP.out.new⟩⟩
              have hne : (Value.slice (some ⟨g', 0, none⟩) (i + 1) cap').ownBlock ≠ some gl := owns_ne' HW10.out HC10.out (by decide)
              have e : strC (keysUp sec (i + 1)) = strC (keysUp sec i) ++ [.string kv] := by rw [keysUp_succ, strC_snoc, Hkv.out]; rfl
              rw [e]
              exact HW10.out.kept (row := some gl) ⟨rfl, rfl, rfl, by simp, fun j _ hj => Below.heap_setCell _ _ _ _ (fun e => hj (by rw [e]))⟩ (Or.inr hne)
            case measure => simp [intOf]; omega
    · obtain rfl : i = N := by omega
      obtain ⟨vo, vc, hkp⟩ := HK.out
      have HL0 : Hid (∃ V, LevsP sec h W 0 (.slice (some ⟨gl, 0, none⟩) 1 1) V wr) := Lib.hid (by
        refine ⟨fun _ => .slice vo i vc, hkp.below, ?_, fun j hj => ?_⟩
        · exact ⟨by simp, Or.inr ⟨gl, 1, _, rfl, hkp.new, hkp.cell, by omega, by unfold maxLen; omega, rfl, rfl⟩⟩
        · obtain rfl : j = 0 := by omega
          have hl0 : (Sgn.level sec h 0).length = i := by rw [Sgn.level_len sec h 0 (by omega), HN.out]; rfl
          have e0 : Sgn.level sec h 0 = keysUp sec i := by rw [HN.out]; rfl
          rw [hl0]
          refine ⟨vo, vc, rfl, ?_⟩
          rw [e0]
          exact hkp.row)
      clear hkp HK
      obtain ⟨wo, rfl⟩ : ∃ y, y = wr := ⟨_, rfl⟩
      go_wp2
      go_loopw [5, 41] (fun v a wr => ∃ n : Nat, n ≤ h ∧ a = .int .i64 n ∧ ∃ g c, v = .slice (some ⟨g, 0, none⟩) (n + 1) c ∧ Hid (∃ V, LevsP sec h W n (.slice (some ⟨g, 0, none⟩) (n + 1) c) V wr)) (fun _ a _ => h - (intOf a).toNat)
      case atStart => exact ⟨0, by omega, rfl, gl, 1, rfl, HL0⟩
      case round =>
        obtain ⟨n, hn, rfl, g, c, rfl, HL⟩ := hrel
        by_cases hltn : n < h
        · have hltn' : (n : Int) < h := by omega
          obtain ⟨wp, rfl⟩ : ∃ y, y = wr := ⟨_, rfl⟩
          obtain ⟨V, hlv⟩ := HL.out
          have HV := Lib.hid hlv
          obtain ⟨lo, lc, hVn, hrown⟩ := hlv.levs n (Nat.le_refl _)
          obtain ⟨M, HM⟩ : ∃ x, Hid (x = (Sgn.level sec h n).length) := ⟨_, Lib.hid rfl⟩
          rw [← HM.out] at hVn hrown
          rw [hVn] at hrown
          have HVn := Lib.hid hVn
          have HRn := Lib.hid hrown
          have hMb : M ≤ 256 ∧ M % 2 = 0 := by
            rw [HM.out, Sgn.level_len sec h n (by omega), show h - n = (h - n - 1) + 1 by omega, Nat.pow_succ]
            refine ⟨?_, by omega⟩
            have : 2 ^ (h - n - 1) ≤ 2 ^ 7 := Nat.pow_le_pow_right (by decide) (by omega)
            omega
          clear hlv hVn hrown HL
          have HCell : Hid (wp.cell? ⟨g, n, none⟩ = some (.slice lo M lc)) := Lib.hid (by
            rw [HV.out.row.cellAt n (by omega), List.getElem?_map, List.getElem?_range (by omega), ← HVn.out]; rfl)
          have hgp : g < wp.heap.size := lt_of_cell HCell.out
          have HTp : Hid (Tab wp) := Lib.hid (HT.out.below HV.out.below)
          have HSn : Hid (IsStrs wp lo (Sgn.level sec h n)) := Lib.hid (strs_of_row HRn.out HM.out)
          have HSz : Hid (∀ s ∈ Sgn.level sec h n, s.size = 16) := Lib.hid fun s hs => by
            cases n with
            | zero =>
              obtain ⟨q, _, rfl⟩ := List.mem_map.1 hs
              exact Sgn.lst_size _
            | succ n =>
              obtain ⟨q, _, rfl⟩ := List.mem_map.1 hs
              exact Sgn.lst_size _
          go_wp2
          go_loopw [10, 11] (fun v a wr => ∃ k q : Nat, k = 2 * q ∧ k ≤ M ∧ a = .int .i64 k ∧ ∃ eo ec, v = .slice eo q ec ∧ Hid (Below wp.heap.size wp wr ∧ wr.ownsRow wp.heap.size 9 1 (.slice eo q ec) q (strC (upTo sec h n q)))) (fun _ a _ => M - (intOf a).toNat)
          case atStart => exact ⟨0, 0, rfl, by omega, rfl, none, 0, rfl, Lib.hid ⟨Below.refl _ _, World.ownsRow_nil _ _ _ _⟩⟩
          case round =>
            obtain ⟨k, q, hkq, hk, rfl, eo, ec, rfl, HE⟩ := hrel
            have y1 : wr.cell? ⟨g, n, none⟩ = some (.slice lo M lc) := by rw [HE.out.1.cell (p := ⟨g, n, none⟩) hgp]; exact HCell.out
            have hgr : g < wr.heap.size := lt_of_cell y1
            by_cases hltk : k < M
            · have hltk' : (k : Int) < M := by omega
              have hk1 : k + 1 < M := by omega
              have hk1' : ((k + 1 : Nat) : Int) < M := by omega
              have hk2' : (k : Int) + 1 < M := by omega
              have hk0' : (0 : Int) ≤ (k : Int) + 1 := by omega
              have hwr : IntKind.i64.wrap ((k : Int) + 1) = ((k + 1 : Nat) : Int) := by rw [IntKind.wrap_i64]; omega
              obtain ⟨bl, ol, rfl, hbl, hcl⟩ := strs_at (HSn.out.below HE.out.1) (k := k) (by rw [← HM.out]; exact hltk)
              obtain ⟨sa, Hsa⟩ : ∃ x, Hid (x = Sgn.at_ (Sgn.level sec h n) k) := ⟨_, Lib.hid rfl⟩
              obtain ⟨sb, Hsb⟩ : ∃ x, Hid (x = Sgn.at_ (Sgn.level sec h n) (k + 1)) := ⟨_, Lib.hid rfl⟩
              have d1 : wr.cell? ⟨bl, ol + k, none⟩ = some (.string sa) := by rw [hcl k (by rw [← HM.out]; exact hltk), Hsa.out, Sgn.at_get (by rw [← HM.out]; exact hltk)]
              have d2 : wr.cell? ⟨bl, ol + (k + 1), none⟩ = some (.string sb) := by rw [hcl (k + 1) (by rw [← HM.out]; exact hk1), Hsb.out, Sgn.at_get (by rw [← HM.out]; exact hk1)]
              have hza : sa.size ≤ 300 := by
                rw [Hsa.out, Sgn.at_get (by rw [← HM.out]; exact hltk), HSz.out _ (List.getElem_mem _)]; decide
              have hzb : sb.size ≤ 300 := by
                rw [Hsb.out, Sgn.at_get (by rw [← HM.out]; exact hk1), HSz.out _ (List.getElem_mem _)]; decide
              obtain ⟨nv, Hnv⟩ : ∃ x, Hid (x = Sgn.nodeV sa sb) := ⟨_, Lib.hid rfl⟩
              have HNode := Lib.hid fun (w' : World) (hb : Below wr.heap.size wr w') => node_any sa sb hza hzb w' ((HTp.out.below HE.out.1).below hb)
              rw [← Hnv.out] at HNode
              have HR1 : Hid (∀ X1, Below wr.heap.size wr X1 → X1.ownsRow wp.heap.size 9 1 (.slice eo q ec) q (strC (upTo sec h n q)) ∧ Below wp.heap.size wp X1) := Lib.hid fun X1 hb => ⟨owns_grown HE.out.2 hb, below_step HE.out.1 hb⟩
              have HNw : Hid (∀ (X1 : World) (i : Nat) (u : Value), [Value.string nv][i]? = some u → (X1.alloc (.cells #[.string nv] 9)).cell? ((⟨X1.heap.size, 0, none⟩ : Addr).add i) = some u) := Lib.hid (by
                intro X1 i u hu
                have e : (⟨X1.heap.size, 0, none⟩ : Addr).add i = ⟨X1.heap.size, i, none⟩ := by unfold Addr.add; split <;> simp_all
                rw [e, cell_alloc, if_pos rfl]
                simpa using hu)
              have hqb : q ≤ 256 := by omega
              have hnn1 : (n : Int) < (n : Int) + 1 := by omega
              have HKq := Lib.hid hkq
              clear hcl hkq
              go_wp2_with fail
              go_region_law (first
                | (go_simp; go_at_call 40; refine (HNode.out _ (by exact (Below.refl _ _).drew)).mono ?_; rintro e X1 ⟨rfl, hb⟩; have HbX : Hid (Below wr.heap.size wr X1) := Lib.hid (below_step (Below.refl _ _).drew hb); clear hb)
                | (refine step_append_lies _ rfl (.tmp 53) (.tmp 70) 22 rfl wp.heap.size 9 i1 (.string ⟨#[]⟩) 1 16 Tryd.underlying22 hi1 hy0 hy1 hy2 rfl (by decide) (.slice eo q ec) q (strC (upTo sec h n q)) (by simp [Act.eval]) ((HR1.out X1 HbX.out).1.alloc _) ⟨X1.heap.size, 0, none⟩ 1 1 [.string nv] (by simp [Act.eval]) rfl (HNw.out X1) (by simp [Value.oneCell']) (by decide) (by unfold maxLen; omega) (by omega) (by have := (HR1.out X1 HbX.out).2.size; rw [size_alloc]; omega) _ rfl ?_; intro g' cap' w10 hown hgrow _ _; have HW10 := Lib.hid hown; have HG10 := Lib.hid hgrow; clear hown hgrow))
              all_goals
                go_wp2
                go_roundw
                case rel =>
                  have hkq := HKq.out
                  refine ⟨k + 2, q + 1, by omega, by omega, by go_num, some ⟨g', 0, none⟩, cap', rfl, Lib.hid ⟨?_, ?_⟩⟩
                  · have hbX := (HR1.out X1 HbX.out).2
                    exact (hbX.alloc hbX.size _).grown HG10.out (by have := hbX.size; rw [size_alloc]; omega) (fun j e => ((HR1.out X1 HbX.out).1.lt j e).1)
                  · have e : strC (upTo sec h n (q + 1)) = strC (upTo sec h n q) ++ [.string nv] := by rw [upTo_succ, strC_snoc, Hnv.out, Hsa.out, Hsb.out, hkq]
                    rw [e]
                    exact HW10.out
                case measure => simp [intOf]; omega
            · obtain rfl : k = M := by omega
              have hup : upTo sec h n q = Sgn.level sec h (n + 1) := by
                have e : (Sgn.level sec h n).length / 2 = q := by rw [← HM.out]; omega
                show _ = Sgn.up _
                unfold Sgn.up upTo
                rw [e]
              have hlq : (Sgn.level sec h (n + 1)).length = q := by
                have e : (Sgn.level sec h n).length / 2 = q := by rw [← HM.out]; omega
                show (Sgn.up _).length = q
                rw [Sgn.up_len, e]
              have HRq : Hid (wr.ownsRow wp.heap.size 9 1 (.slice eo q ec) q (strC (Sgn.level sec h (n + 1)))) := Lib.hid (by rw [← hup]; exact HE.out.2)
              have HBw : Hid (Below W.heap.size W wr) := Lib.hid (below_step HV.out.below HE.out.1)
              have HRow : Hid (wr.ownsRow W.heap.size 22 1 (.slice (some ⟨g, 0, none⟩) (n + 1) c) (n + 1) ((List.range (n + 1)).map V)) := Lib.hid (owns_grown HV.out.row HE.out.1)
              have HUp := Lib.hid hup
              have HLq := Lib.hid hlq
              have HNw : Hid (∀ (i : Nat) (u : Value), [Value.slice eo q ec][i]? = some u → (wr.alloc (.cells #[.slice eo q ec] 22)).cell? ((⟨wr.heap.size, 0, none⟩ : Addr).add i) = some u) := Lib.hid (by
                intro i u hu
                have e : (⟨wr.heap.size, 0, none⟩ : Addr).add i = ⟨wr.heap.size, i, none⟩ := by unfold Addr.add; split <;> simp_all
                rw [e, cell_alloc, if_pos rfl]
                simpa using hu)
              clear hup hlq
              go_wp2_with (at_builtin; go_loud (refine wpList_append_own _ rfl (.tmp 72) (.tmp 74) 48 rfl W.heap.size 22 j1 (.slice none 0 0) 1 24 Tryd.underlying48 hj1 hz0 hz1 hz2 rfl (by decide) _ _ _ rfl (HRow.out.alloc _) ⟨wr.heap.size, 0, none⟩ 1 1 [.slice eo q ec] rfl rfl HNw.out (by simp [Value.oneCell']) (by unfold maxLen; omega) (by omega) (by have := HBw.out.size; rw [size_alloc]; omega) ?_); intro v' w10 hown hgrow _; obtain ⟨g', cap', rfl⟩ := owns_succ' hown; have HW10 := Lib.hid hown; have HG10 := Lib.hid hgrow; clear hown hgrow)
              go_roundw
              case rel =>
                refine ⟨n + 1, by omega, by go_num, g', cap', rfl, Lib.hid ⟨fun j => if j = n + 1 then .slice eo q ec else V j, ?_, ?_, ?_⟩⟩
                · exact (HBw.out.alloc HBw.out.size _).grown HG10.out (by have := HBw.out.size; rw [size_alloc]; omega) (fun j e => (HRow.out.lt j e).1)
                · have e : (List.range (n + 1 + 1)).map (fun j => if j = n + 1 then Value.slice eo q ec else V j) = (List.range (n + 1)).map V ++ [Value.slice eo q ec] := by
                    rw [List.range_succ, List.map_append]
                    congr 1
                    · exact List.map_congr_left fun j hj => by
                        rw [if_neg (by have := List.mem_range.1 hj; omega)]
                    · simp
                  rw [e]
                  exact HW10.out
                · intro j hj
                  by_cases he : j = n + 1
                  · subst he
                    rw [if_pos rfl, HLq.out]
                    refine ⟨eo, ec, rfl, owns_base (owns_by (HRq.out.alloc _) HG10.out ?_) HV.out.below.size⟩
                    exact owns_diff HRq.out HRow.out rfl (by decide)
                  · rw [if_neg he]
                    obtain ⟨vo', vc', e1, hr1⟩ := HV.out.levs j (by omega)
                    have hr2 := owns_grown hr1 HE.out.1
                    exact ⟨vo', vc', e1, owns_by (hr2.alloc _) HG10.out (owns_diff hr2 HRow.out rfl (by decide))⟩
              case measure => simp [intOf]; omega
        · obtain rfl : n = h := by omega
          obtain ⟨V, HV⟩ := HL.out
          clear HL
          have HV := Lib.hid HV
          go_wp2
          go_ret
          refine ⟨g, c, rfl, owns_cap HV.out.row, HV.out.below, (HV.out.row.lt g rfl).2, fun j hj => ?_⟩
          obtain ⟨vo', vc', e1, hr1⟩ := HV.out.levs j hj
          refine ⟨vo', vc', ?_, ?_⟩
          · rw [HV.out.row.cellAt j (by omega), List.getElem?_map, List.getElem?_range (by omega), ← e1]; rfl
          · rw [e1] at hr1
            exact strs_of_row hr1 rfl

end Go.Proofs.YtfnbdjjobndgfaaDoor
