/- The walk: the order of tasks. -/
import Derived.Test.YtejgbfaampllaaaTskValid
import Derived.Test.YtejgbfaampllaaaTskAll
import Derived.Test.YtejgbfaampllaaaTskOrd
import Derived.Test.YtejgbfaampllaaaAppApart
import Derived.ScopeJumps
import Derived.WalkMore
import Derived.Outline
namespace Go.Proofs.Ytejgbfaampllaaa
open Go.RowKit

theorem info_int : (Try.prog.info? 3).map (fun i => (i.zero, i.size, i.bytes)) = some (some (.int .i64 0), 1, 8) := by kernel_rfl
/-- What a call for an order returns. -/
def OrderPost (l : List Tk) (W : World) (e : Ending) (w' : World) : Prop :=
  ∃ ao cap, e = .returned (.tuple #[.slice ao (Tsk.orderV l).length cap, .int .i64 (Tsk.orderE l)]) ∧ Below W.heap.size W w' ∧ IsInts w' ao (Tsk.ints (Tsk.orderV l))

/-- What is done, as cells. -/
def markC (n : Nat) (ord : List Nat) : Array Value := ((List.range n).map fun i => Value.int .i64 (if i ∈ ord then 1 else 0)).toArray
theorem markC_get {n : Nat} {ord : List Nat} {i : Nat} (h : i < n) : (markC n ord)[i]? = some (.int .i64 (if i ∈ ord then 1 else 0)) := by
  simp [markC, h]
theorem markC_nil (n : Nat) : markC n [] = (List.replicate n (Value.int .i64 0)).toArray := by
  unfold markC
  congr 1
  apply List.ext_getElem
  · simp
  · intro i h1 h2
    simp
theorem markC_set {n : Nat} {ord : List Nat} {k : Nat} (hk : k < n) : (markC n ord).setIfInBounds k (.int .i64 1) = markC n (ord ++ [k]) := by
  apply Array.ext
  · simp [markC]
  · intro i h1 h2
    simp only [markC, List.setIfInBounds_toArray, List.getElem_toArray, List.getElem_set, List.getElem_map, List.getElem_range]
    by_cases e : k = i
    · subst e; simp
    · rw [if_neg e]
      have : (i ∈ ord ++ [k]) ↔ i ∈ ord := by
        simp only [List.mem_append, List.mem_singleton]
        exact ⟨fun h => h.elim id (fun hh => absurd hh.symm e), Or.inl⟩
      simp only [this]
def ordC (ord : List Nat) : List Value := ord.map fun i : Nat => Value.int .i64 (i : Int)
theorem whole_of_full {w : World} {base g n : Nat} {e : TypeId} {xs : List Value} (h : w.ownsRow base e 1 (.slice (some ⟨g, 0, none⟩) n n) n xs) (hx : xs.length = n) : Whole w g e xs.toArray := by
  rcases h.2 with ⟨hh, _⟩ | ⟨g2, cap2, cur, hv2, _, hc, _, hle, hcs, htk⟩
  · simp at hh
  · simp only [Value.slice.injEq, Option.some.injEq, Addr.mk.injEq, and_true] at hv2
    obtain ⟨rfl, -, rfl⟩ := hv2
    have h3 : cur.toList.take (n * 1) = cur.toList := List.take_of_length_le (by rw [Array.length_toList, hcs]; omega)
    rw [h3] at htk
    have e2 : cur = xs.toArray := by apply Array.ext'; rw [htk]
    rw [← e2]
    exact hc
/-- What holds while the order is looked for. -/
structure Inv (l : List Tk) (W : World) (n : Nat) (ord : List Nat) (vo : Option Addr) (m vc g b4 : Nat) (w : World) : Prop where
  below : Below W.heap.size W w
  var : Whole w b4 26 #[.slice (some ⟨g, 0, none⟩) n n]
  marks : Whole w g 3 (markC n ord)
  row : w.ownsRow W.heap.size 3 1 (.slice vo m vc) m (ordC ord)
  apart : (Value.slice vo m vc).ownBlock ≠ some g
  new : W.heap.size ≤ g ∧ W.heap.size ≤ b4
  len : m = ord.length
  way : Tsk.Way l ord
theorem Inv.alloc {l : List Tk} {W : World} {n : Nat} {ord : List Nat} {vo : Option Addr} {m vc g b4 : Nat} {w : World} (h : Inv l W n ord vo m vc g b4 w) (o : Obj) : Inv l W n ord vo m vc g b4 (w.alloc o) :=
  ⟨h.below.alloc h.below.size o, h.var.alloc o, h.marks.alloc o, h.row.alloc o, h.apart, h.new, h.len, h.way⟩

/-- What holds at every jump. -/
def OrdJ (l : List Tk) (W : World) (n : Nat) (ao : Option Addr) (cap : Nat) (a' : Act) (w' : World) : Prop :=
  ∃ (ord : List Nat) (vo : Option Addr) (m vc g b4 : Nat) (u2 u6 u7 u14 u15 u16 u17 u18 u19 u20 u21 u22 u23 u24 u25 u26 u27 u28 u29 u30 u31 u32 u33 u34 u35 u36 u37 u38 u39 u40 u41 u42 u43 u44 u45 : Value), a' = { tmps := #[.slice ao n cap, undef, u2, .int .i64 0, .pointer (some ⟨b4, 0, none⟩), .slice vo m vc, u6, u7, .slice ao n cap, .bool true, .bool false, .slice ao n cap, .int .i64 n, .slice (some ⟨g, 0, none⟩) n n, u14, u15, u16, u17, u18, u19, u20, u21, u22, u23, u24, u25, u26, u27, u28, u29, u30, u31, u32, u33, u34, u35, u36, u37, u38, u39, u40, u41, u42, u43, u44, u45], defers := [] } ∧ Inv l W n ord vo m vc g b4 w'
def ordMu (n : Nat) (a' : Act) : Nat := match a'.tmps.getD 5 undef with | .slice _ m _ => n - m | _ => 0
theorem owns_ne {base : Nat} {W : World} {e t : TypeId} {size k : Nat} {v : Value} {xs : List Value} {g : Nat} {cs : Array Value} (h : W.ownsRow base e size v k xs) (hg : Whole W g t cs) (hne : e ≠ t) : v.ownBlock ≠ some g := by
  rcases h.2 with ⟨rfl, _⟩ | ⟨g', cap, cur, rfl, _, hh, _⟩
  · simp [Value.ownBlock]
  · intro he
    have e1 : g' = g := by simpa [Value.ownBlock] using he
    subst e1
    have h2 : Whole W g' e cur := hh
    exact h2.apart hg hne rfl
theorem ints_of_row {W : World} {base : Nat} {vo : Option Addr} {m vc : Nat} {ord : List Nat} (h : W.ownsRow base 3 1 (.slice vo m vc) m (ordC ord)) (hm : m = ord.length) : IsInts W vo (Tsk.ints ord) := by
  by_cases h0 : ord = []
  · subst h0; exact Or.inl rfl
  · right
    have hpos : 0 < ord.length := List.length_pos_iff.2 h0
    rcases h.2 with ⟨hh, h1⟩ | ⟨g, cap, cur, hv, _, hc, _, _⟩
    · omega
    · simp only [Value.slice.injEq] at hv
      obtain ⟨rfl, -, rfl⟩ := hv
      refine ⟨g, 0, rfl, (h.lt g rfl).2, fun k hk => ?_⟩
      have hk' : k < ord.length := by simpa [Tsk.ints] using hk
      rw [Nat.zero_add, h.cellAt k (by omega)]
      simp [ordC, Tsk.ints, hk']
theorem owns_succ {w : World} {base : Nat} {e : TypeId} {size : Nat} {v : Value} {k : Nat} {xs : List Value} (h : w.ownsRow base e size v (k + 1) xs) : ∃ g cap, v = .slice (some ⟨g, 0, none⟩) (k + 1) cap := by
  rcases h.2 with ⟨_, h0⟩ | ⟨g, cap, cur, rfl, _⟩
  · omega
  · exact ⟨g, cap, rfl⟩

set_option maxRecDepth 100000 in
set_option maxHeartbeats 4000000 in
theorem order_yes (l : List Tk) (hf : ∀ t ∈ l, tkFine t) (hv : Tsk.validB l = true) (ao : Option Addr) (cap : Nat) (W : World) (hl : IsTasks W ao l) :
    Calls Try.prog 11 #[.slice ao l.length cap] W (OrderPost l W) := by
  have hn := (Tsk.validB_iff.1 hv).1
  obtain ⟨n, Hn⟩ : ∃ n, Hid (n = l.length) := ⟨_, Lib.hid rfl⟩
  have HV := Lib.hid (valid_any l hf (by omega) ao cap W hl)
  rw [hv] at HV
  rw [← Hn.out] at HV hn ⊢
  have HVal := Lib.hid (Tsk.validB_iff.1 hv).2
  have HVB := Lib.hid hv
  have HF := Lib.hid hf
  have HL := Lib.hid hl
  clear hf hv hl
  have HEnt : Hid (∀ (c : Addr) x w, (callFunc 26 #[.int .i64 x, .pointer (some c)]).run Try.prog w = .ok (.enter 26 #[.int .i64 x, .pointer (some c)]) w) := Lib.hid fun c x w => by kernel_rfl
  obtain ⟨i1, hi1, hy0, hy1, hy2⟩ := info_parts info_int
  go_enter Try.func11, Try.ntmps11
  go_wp2_with fail
  refine wp_scope_jumps 0 (OrdJ l W n ao cap) (fun a' _ => ordMu n a') rfl ?first ?pass
  case' first =>
    go_wp2_with fail
    refine HV.out.mono ?_
    rintro e w1 ⟨rfl, hb⟩
    have hs1 := hb.size
    have HB1 := Lib.hid hb
    clear hb
    go_wp2_with (at_make; refine wpList_make_full _ rfl _ _ 26 rfl W.heap.size 3 i1 (.int .i64 0) 1 Try.underlying26 hi1 hy0 hy1 .i64 .i64 _ _ n rfl rfl rfl rfl (by rw [hy2]; omega) (by unfold maxLen; omega) hs1 ?_; intro w2 hown hgr; have HO := Lib.hid hown; have HG := Lib.hid hgr; clear hown hgr)
    have HI0 : Hid (Inv l W n [] none 0 0 w1.heap.size w2.heap.size (w2.alloc (.cells #[.slice (some ⟨w1.heap.size, 0, none⟩) n n] 26))) := Lib.hid (by
      have hb2 : Below w1.heap.size w1 w2 := ⟨HG.out.os, HG.out.tape, HG.out.output, HG.out.size, fun k hk => HG.out.block k hk (by simp)⟩
      have hbW := below_step HB1.out hb2
      have ho := HO.out
      have e1 : (madeCells (Value.int .i64 0).cells (n * 1)).toList = List.replicate n (.int .i64 0) := by rw [Nat.mul_one]; exact toList_madeCells_one _ _
      rw [e1] at ho
      have hw := whole_of_full ho (by simp)
      rw [← markC_nil] at hw
      exact ⟨hbW.alloc hbW.size _, Whole.new _ _ _, hw.alloc _, World.ownsRow_nil _ _ _ _, by simp [Value.ownBlock], ⟨HB1.out.size, hbW.size⟩, rfl, Tsk.Way.nil l⟩)
    obtain ⟨wj, Hwj⟩ : ∃ x, Hid (x = w2.alloc (.cells #[.slice (some ⟨w1.heap.size, 0, none⟩) n n] 26)) := ⟨_, Lib.hid rfl⟩
    obtain ⟨ord, ho⟩ : ∃ x : List Nat, [] = x := ⟨_, rfl⟩
    obtain ⟨vo, hvo⟩ : ∃ x : Option Addr, none = x := ⟨_, rfl⟩
    obtain ⟨m, hm⟩ : ∃ x : Nat, 0 = x := ⟨_, rfl⟩
    obtain ⟨vc, hvc⟩ : ∃ x : Nat, 0 = x := ⟨_, rfl⟩
    obtain ⟨g, hg⟩ : ∃ x : Nat, w1.heap.size = x := ⟨_, rfl⟩
    obtain ⟨b4, hb4⟩ : ∃ x : Nat, w2.heap.size = x := ⟨_, rfl⟩
    have hsl : Value.slice none 0 0 = Value.slice vo m vc := by rw [← hvo, ← hm, ← hvc]
    have HI : Hid (Inv l W n ord vo m vc g b4 wj) := Lib.hid (by rw [Hwj.out, ← ho, ← hvo, ← hm, ← hvc, ← hg, ← hb4]; exact HI0.out)
    rw [← Hwj.out, hsl, hg, hb4]
    clear hs1 ho hvo hm hvc hg hb4 hsl
    go_step3
  case' pass =>
    rintro a' wj ⟨ord, vo, m, vc, g, b4, u2, u6, u7, u14, u15, u16, u17, u18, u19, u20, u21, u22, u23, u24, u25, u26, u27, u28, u29, u30, u31, u32, u33, u34, u35, u36, u37, u38, u39, u40, u41, u42, u43, u44, u45, rfl, HI0⟩
    have HI := Lib.hid HI0
    clear HI0
  all_goals
    go_wp2
    go_loopw [5, 16] (fun v i wr => ∃ k : Nat, k ≤ n ∧ i = .int .i64 k ∧ v = .slice vo m vc ∧ Hid (Inv l W n ord vo m vc g b4 wr) ∧ Hid (∀ q, q < k → Tsk.readyB l ord q = false)) (fun _ i _ => n - (intOf i).toNat)
    case atStart => exact ⟨0, by omega, rfl, rfl, HI, Lib.hid fun q h => by omega⟩
    case round =>
      obtain ⟨k, hk, rfl, rfl, HI, HQ⟩ := hrel
      by_cases hlt : k < n
      · have hlt' : (k : Int) < n := by omega
        have hkl : k < l.length := by rw [← Hn.out]; exact hlt
        obtain ⟨bk, off, rfl, hbk, hact⟩ := (HL.out.below HI.out.below).at hkl
        obtain ⟨t, Ht⟩ : ∃ t, Hid (t = l[k]) := ⟨_, Lib.hid rfl⟩
        rw [← Ht.out] at hact
        have HFin : Hid (tkFine t) := Lib.hid (by rw [Ht.out]; exact HF.out _ (List.getElem_mem _))
        have HNe : Hid (Tsk.needsAt l k = Tsk.needs t) := Lib.hid (by rw [Tsk.needsAt_get hkl, Ht.out])
        have HFt : Hid (Tsk.fineTB n t = true) := Lib.hid (by rw [Hn.out, Ht.out]; exact HVal.out _ (List.getElem_mem _))
        obtain ⟨hh, sk, ba, af⟩ := t
        obtain ⟨c1, c2, c3, ao2, cap2, c4, hin⟩ := hact
        simp only at c1 c2 c3 c4 hin
        obtain ⟨mm, Hm⟩ : ∃ m, Hid (m = af.length) := ⟨_, Lib.hid rfl⟩
        rw [← Hm.out] at c4
        have HIn := Lib.hid hin
        clear hin
        have v1 : wr.cell? ⟨b4, 0, none⟩ = some (.slice (some ⟨g, 0, none⟩) n n) := HI.out.var.cell 0
        have hbl4 := HI.out.var.lt
        have hgl := HI.out.marks.lt
        have s1 : wr.cell? ⟨g, k, none⟩ = some (.int .i64 (if k ∈ ord then 1 else 0)) := by rw [HI.out.marks.cell k, markC_get hlt]
        by_cases hmem : k ∈ ord
        · rw [if_pos hmem] at s1
          have HR : Hid (Tsk.readyB l ord k = false) := Lib.hid (by
            cases h : Tsk.readyB l ord k
            · rfl
            · exact absurd hmem (Tsk.readyB_iff.1 h).1)
          clear hmem
          go_wp2
          go_roundw
          case rel => exact ⟨k + 1, by omega, by go_num, rfl, Lib.hid (HI.out.alloc _), Lib.hid fun q hq => by
            by_cases e : q = k
            · subst e; exact HR.out
            · exact HQ.out q (by omega)⟩
          case measure => simp [intOf]; omega
        · rw [if_neg hmem] at s1
          have HMem := Lib.hid hmem
          clear hmem
          go_wp2_with fail
          obtain ⟨W8, HW8⟩ : ∃ x, Hid (x = wr.alloc (.cells #[.int .i64 hh, .int .i64 sk, .bool ba, .slice ao2 mm cap2] 41)) := ⟨_, Lib.hid rfl⟩
          have HI8 : Hid (Inv l W n ord vo m vc g b4 W8) := Lib.hid (by rw [HW8.out]; exact HI.out.alloc _)
          have HIn8 : Hid (IsInts W8 ao2 af) := Lib.hid (by rw [HW8.out]; exact HIn.out.below ((Below.refl _ _).alloc (Nat.le_refl _) _))
          rw [← HW8.out]
          clear c1 c2 c3 c4 v1 s1 hbl4 hgl
          have v1 : W8.cell? ⟨b4, 0, none⟩ = some (.slice (some ⟨g, 0, none⟩) n n) := HI8.out.var.cell 0
          have s1 : W8.cell? ⟨g, k, none⟩ = some (.int .i64 0) := by rw [HI8.out.marks.cell k, markC_get hlt, if_neg HMem.out]
          have f1 := HI8.out.marks.frozen k
          obtain ⟨rdy, Hrdy⟩ : ∃ r, Hid (r = af.all fun x => ((if x.toNat ∈ ord then 1 else 0 : Int) == 1)) := ⟨_, Lib.hid rfl⟩
          have HAll := Lib.hid (all_any 26 ⟨b4, 0, none⟩ (HEnt.out _) af HFin.out.1 ao2 cap2 (fun x => ((if x.toNat ∈ ord then 1 else 0 : Int) == 1)) W8 HIn8.out (fun x hx => by
            obtain ⟨q, hq, rfl⟩ := List.getElem_of_mem hx
            have h1 := Tsk.stepB_iff.1 (Tsk.fineB_iff.1 (Tsk.fineTB_iff.1 HFt.out).2 q hq)
            simp only at h1
            rw [Tsk.getD_get hq] at h1
            obtain ⟨y, hy⟩ : ∃ y : Nat, af[q] = (y : Int) := ⟨af[q].toNat, by omega⟩
            rw [hy] at h1 ⊢
            rw [Int.toNat_natCast]
            exact ask_order y b4 g n n _ W8 v1 (by omega) (by rw [HI8.out.marks.cell y, markC_get (by omega)])))
          rw [← Hrdy.out, ← Hm.out] at HAll
          have HRd : Hid (Tsk.readyB l ord k = rdy) := Lib.hid (by
            rw [Hrdy.out]
            unfold Tsk.readyB
            have h1 : (ord.contains k) = false := by simp [HMem.out]
            rw [h1, HNe.out]
            unfold Tsk.needs
            rw [List.all_map]
            simp only [Bool.not_false, Bool.true_and]
            congr 1
            funext x
            by_cases e : x.toNat ∈ ord <;> simp [e])
          cases rdy
          · refine HAll.out.mono ?_
            rintro e _ ⟨rfl, rfl⟩
            go_wp2
            go_roundw
            case rel => exact ⟨k + 1, by omega, by go_num, rfl, HI8, Lib.hid fun q hq => by
              by_cases e : q = k
              · subst e; exact HRd.out
              · exact HQ.out q (by omega)⟩
            case measure => simp [intOf]; omega
          · refine HAll.out.mono ?_
            rintro e _ ⟨rfl, rfl⟩
            have HRow9 : Hid ((W8.setCell ⟨g, k, none⟩ (.int .i64 1)).ownsRow W.heap.size 3 1 (.slice vo m vc) m (ordC ord)) := Lib.hid (HI8.out.row.kept (row := some g) ⟨rfl, rfl, rfl, by simp, fun j _ hj => Below.heap_setCell _ _ _ _ (fun e => hj (by rw [e]))⟩ (Or.inr HI8.out.apart))
            have HN : Hid (∀ (i : Nat) (u : Value), [Value.int .i64 (k : Int)][i]? = some u → ((W8.setCell ⟨g, k, none⟩ (.int .i64 1)).alloc (.cells #[.int .i64 k] 3)).cell? ((⟨W8.heap.size, 0, none⟩ : Addr).add i) = some u) := Lib.hid (by
              intro i u hu
              have e : (⟨W8.heap.size, 0, none⟩ : Addr).add i = ⟨W8.heap.size, i, none⟩ := by unfold Addr.add; split <;> simp_all
              rw [e, cell_alloc, if_pos (by simp)]
              simpa using hu)
            have hm40 : Hid (m ≤ 40) := Lib.hid (by have := HI8.out.way.1.len; have := HI8.out.len; have := Hn.out; omega)
            go_wp2_with (at_builtin; go_loud (refine wpList_append_apart rfl (.tmp 35) (.tmp 37) 26 rfl W.heap.size 3 i1 (.int .i64 0) 1 8 Try.underlying26 hi1 hy0 hy1 hy2 rfl (by decide) _ _ _ rfl (HRow9.out.alloc _) ⟨W8.heap.size, 0, none⟩ 1 1 [.int .i64 k] rfl rfl HN.out (by simp [Value.oneCell']) (by have := hm40.out; unfold maxLen; omega) (by have := hm40.out; omega) (by have := HI8.out.below.size; rw [size_alloc]; simp; omega) ?_); intro v' w10 hown hgrow hap; obtain ⟨g', cap', rfl⟩ := owns_succ hown; have HW10 := Lib.hid hown; have HG10 := Lib.hid hgrow; have HA10 := Lib.hid hap; clear hown hgrow hap)
            go_step3
            have hJ : Inv l W n (ord ++ [k]) (some ⟨g', 0, none⟩) (m + 1) cap' g b4 w10 := by
              have hne4 : (Value.slice vo m vc).ownBlock ≠ some b4 := owns_ne HI8.out.row HI8.out.var (by decide)
              have hvar9 : Whole (W8.setCell ⟨g, k, none⟩ (.int .i64 1)) b4 26 #[.slice (some ⟨g, 0, none⟩) n n] := HI8.out.var.far (p := ⟨g, k, none⟩) (HI8.out.var.apart HI8.out.marks (by decide)) _
              have hmk9 : Whole (W8.setCell ⟨g, k, none⟩ (.int .i64 1)) g 3 (markC n (ord ++ [k])) := by
                rw [← markC_set hlt]
                exact HI8.out.marks.set k _
              have hbl9 : Below W.heap.size W (W8.setCell ⟨g, k, none⟩ (.int .i64 1)) := Below.setCell HI8.out.below (p := ⟨g, k, none⟩) HI8.out.new.1 _
              refine ⟨(hbl9.alloc (by simpa using HI8.out.below.size) _).grown HG10.out (by rw [size_alloc]; simp; have := HI8.out.below.size; omega) (fun j e => (HRow9.out.lt j e).1), (HG10.out.block b4 (by rw [size_alloc]; have := hvar9.lt; omega) (fun hh => hne4 hh.symm)).trans (hvar9.alloc _), (HG10.out.block g (by rw [size_alloc]; have := hmk9.lt; omega) (fun hh => HI8.out.apart hh.symm)).trans (hmk9.alloc _), ?_, ?_, HI8.out.new, by rw [List.length_append, HI8.out.len]; rfl, HI8.out.way.next (Tsk.nextT_some hkl HRd.out HQ.out)⟩
              · have e : ordC (ord ++ [k]) = ordC ord ++ [.int .i64 k] := by simp [ordC]
                rw [e]
                exact HW10.out
              · rcases HA10.out with hh | hh
                · rw [hh]; exact HI8.out.apart
                · intro hh2
                  have := hh g hh2
                  rw [size_alloc] at this
                  have := hmk9.lt
                  omega
            have HLt : m < n := by have := HI8.out.way.1.less hkl HMem.out; have := HI8.out.len; have := Hn.out; omega
            refine And.intro (a := (0 : Nat) = 0) rfl ?_
            first
              | exact ⟨⟨ord ++ [k], some ⟨g', 0, none⟩, m + 1, cap', g, b4, _, _, _, _, _, _, _, _, _, _, _, _, _, _, _, _, _, _, _, _, _, _, _, _, _, _, _, _, _, _, _, _, _, _, _, rfl, hJ⟩, show n - (m + 1) < n - m by omega⟩
              | exact ⟨ord ++ [k], some ⟨g', 0, none⟩, m + 1, cap', g, b4, _, _, _, _, _, _, _, _, _, _, _, _, _, _, _, _, _, _, _, _, _, _, _, _, _, _, _, _, _, _, _, _, _, _, _, rfl, hJ⟩
      · obtain rfl : n = k := by omega
        have HEnd : Hid (ord = Tsk.orderL l) := Lib.hid (HI.out.way.stop (Tsk.nextT_none fun q hq => HQ.out q (by rw [Hn.out]; exact hq)))
        by_cases hmn : m < n
        · have hmn' : (m : Int) < n := by omega
          have HP : Hid (OrderPost l W (.returned (.tuple #[.slice none 0 0, .int .i64 24])) wr) := Lib.hid (by
            have h1 : (Tsk.orderL l).length < l.length := by rw [← HEnd.out, ← HI.out.len, ← Hn.out]; exact hmn
            have h2 : Tsk.orderV l = [] := by unfold Tsk.orderV; rw [decide_eq_false (by omega)]; simp
            have h3 : Tsk.orderE l = 24 := by unfold Tsk.orderE; rw [if_pos HVB.out, if_pos h1]
            unfold OrderPost
            rw [h2, h3]
            exact ⟨none, 0, rfl, HI.out.below, Or.inl rfl⟩)
          go_wp2
          simp only [Exit.jump]
          go_ret2
          exact HP.out
        · have hmn' : ¬ (m : Int) < n := by omega
          have HP : Hid (OrderPost l W (.returned (.tuple #[.slice vo m vc, .int .i64 0])) wr) := Lib.hid (by
            have h1 : ¬ (Tsk.orderL l).length < l.length := by rw [← HEnd.out, ← HI.out.len, ← Hn.out]; exact hmn
            have h2 : Tsk.orderV l = Tsk.orderL l := by unfold Tsk.orderV; rw [decide_eq_true (by omega), HVB.out]; rfl
            have h3 : Tsk.orderE l = 0 := by unfold Tsk.orderE; rw [if_pos HVB.out, if_neg h1]
            unfold OrderPost
            rw [h2, h3, ← HEnd.out, ← HI.out.len]
            refine ⟨vo, vc, rfl, HI.out.below, ?_⟩
            exact ints_of_row HI.out.row HI.out.len)
          go_wp2
          simp only [Exit.jump]
          go_ret2
          exact HP.out

theorem order_any (l : List Tk) (hf : ∀ t ∈ l, tkFine t) (hn : l.length ≤ 9223372036854775807) (ao : Option Addr) (cap : Nat) (W : World) (hl : IsTasks W ao l) :
    Calls Try.prog 11 #[.slice ao l.length cap] W (OrderPost l W) := by
  cases hv : Tsk.validB l
  · have HV := Lib.hid (valid_any l hf hn ao cap W hl)
    rw [hv] at HV
    obtain ⟨n, Hn⟩ : ∃ n, Hid (n = l.length) := ⟨_, Lib.hid rfl⟩
    rw [← Hn.out] at HV ⊢
    have HP : Hid (∀ w', Below W.heap.size W w' → OrderPost l W (.returned (.tuple #[.slice none 0 0, .int .i64 1])) w') := Lib.hid fun w' hb => by
      have h2 : Tsk.orderV l = [] := by unfold Tsk.orderV; rw [hv]; rfl
      have h3 : Tsk.orderE l = 1 := by unfold Tsk.orderE; rw [hv]; rfl
      unfold OrderPost
      rw [h2, h3]
      exact ⟨none, 0, rfl, hb, Or.inl rfl⟩
    clear hf hv hl hn
    go_enter Try.func11, Try.ntmps11
    go_wp2_with fail
    go_step3
    go_wp2_with fail
    refine HV.out.mono ?_
    rintro e w1 ⟨rfl, hb⟩
    have HB := Lib.hid hb
    clear hb
    go_wp2
    (try rw [Exit.noGoto_ret])
    go_ret2
    exact HP.out _ HB.out
  · exact order_yes l hf hv ao cap W hl

end Go.Proofs.Ytejgbfaampllaaa
