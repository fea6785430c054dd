/- The laws' head. -/
import Derived.Test.YtfokbcakbbdlaaaHldBuild
namespace Go.Proofs.Ytfokbcakbbdlaaa
open Go.RowKit
open Hld (Rc Hd)

def sH : ByteArray := ⟨#[104]⟩
def sX : ByteArray := ⟨#[120]⟩
def sY : ByteArray := ⟨#[121]⟩
def sZ : ByteArray := ⟨#[122]⟩
def sV : ByteArray := ⟨#[118, 49]⟩
def rMk (ms : List Int) (mo : Option Addr) (mc : Nat) : Rc := mkR 5 0 ⟨#[]⟩ sV ms mo mc
def rBk (a : Int) : Rc := mkR 6 a sH ⟨#[]⟩ [] none 0
theorem rMk_ok (ms : List Int) (mo : Option Addr) (mc : Nat) (h : ms.length ≤ 1000) : RcOk (rMk ms mo mc) := mkR_ok _ _ _ _ _ _ _ h (by decide) (by decide)
theorem rBk_ok (a : Int) : RcOk (rBk a) := mkR_ok _ _ _ _ _ _ _ (by decide) (by decide) (by decide)
theorem allA (mo : Option Addr) (mc : Nat) : Hld.allF ([sH, sX].zip [rMk [1, 2] mo mc, rBk 1]) = [⟨sH, sV, [1, 2], [1]⟩] := by kernel_rfl
theorem allB (mo : Option Addr) (mc : Nat) : Hld.allF ([sH, sX, sY, sZ].zip [rMk [1, 2] mo mc, rBk 1, rBk 2, rBk 3]) = [⟨sH, sV, [1, 2], [1, 2]⟩] := by kernel_rfl
theorem allC (mo : Option Addr) (mc : Nat) : Hld.allF ([sX, sH].zip [rBk 1, rMk [1] mo mc]) = [⟨sH, sV, [1], []⟩] := by kernel_rfl

set_option maxRecDepth 100000 in
set_option maxHeartbeats 2000000 in
theorem all_none (io ro : Option Addr) (n m ic rc : Nat) (hne : n ≠ m) (W : World) :
    Calls Try.prog 11 #[.slice io n ic, .slice ro m rc] W fun e w' => e = .returned (.slice none 0 0) ∧ Below W.heap.size W w' := by
  have h1 : ((n : Int) == (m : Int)) = false := by
    have : ((n : Int) == (m : Int)) = decide ((n : Int) = (m : Int)) := rfl
    rw [this, decide_eq_false]; omega
  go_enter_defers Try.func11, Try.ntmps11
  go_wp2_with fail
  have cN : (W.alloc (.cells #[.slice none 0 0] 26)).cell? ⟨W.heap.size, 0, none⟩ = some (.slice none 0 0) := (Whole.new _ _ _).cell 0
  exact ⟨.slice none 0 0, by simp [results, Try.results11, go_sem, cN], rfl, (Below.refl _ _).alloc (Nat.le_refl _) _⟩
theorem all_on {ids : List ByteArray} {recs : List Rc} {hs : List Hd} {n m : Nat} (h : Hld.allF (ids.zip recs) = hs) (hn : ids.length = n) (hn2 : recs.length = n) (hm : hs.length = m) (hn9 : n ≤ 1000) (hi : ∀ s ∈ ids, s.size ≤ 9223372036854775807) (hr : ∀ r ∈ recs, r.members.length ≤ 1000) (io ro : Option Addr) (ic rc : Nat) (W : World) (h1 : IsStrs W io ids) (h2 : IsRecs W ro recs) :
    Calls Try.prog 11 #[.slice io n ic, .slice ro n rc] W fun e w' => ∃ ao cap, e = .returned (.slice ao m cap) ∧ IsHolds w' ao hs ∧ m ≤ cap ∧ Below W.heap.size W w' := by
  have := all_any ids recs io ro ic rc (by omega) (by omega) hi hr W h1 h2 (by omega)
  rw [h, hm, hn, hn2] at this
  exact this
theorem two_new (W : World) (c1 c2 : Array Value) (t1 t2 : TypeId) : Whole ((W.alloc (.cells c1 t1)).alloc (.cells c2 t2)) W.heap.size t1 c1 ∧ Whole ((W.alloc (.cells c1 t1)).alloc (.cells c2 t2)) (W.heap.size + 1) t2 c2 ∧ Below W.heap.size W ((W.alloc (.cells c1 t1)).alloc (.cells c2 t2)) := by
  have s1 : (W.alloc (.cells c1 t1)).heap.size = W.heap.size + 1 := size_alloc _ _
  refine ⟨(Whole.new _ _ _).alloc _, ?_, ((Below.refl _ _).alloc (Nat.le_refl _) _).alloc (by rw [s1]; omega) _⟩
  have := Whole.new (W.alloc (.cells c1 t1)) t2 c2
  rw [s1] at this
  exact this
theorem holds_of_whole {w : World} {g : Nat} {h : Hd} {mo bo : Option Addr} {mc bc : Nat} (hw : Whole w g 31 #[.string h.id, .string h.vehicle, .slice mo h.members.length mc, .slice bo h.back.length bc]) (h1 : IsInts w mo h.members) (h2 : IsInts w bo h.back) : IsHolds w (some ⟨g, 0, none⟩) [h] :=
  Or.inr ⟨g, 0, rfl, hw.lt, fun k hk => by
    obtain rfl : k = 0 := by simp at hk; exact hk
    exact ⟨hw.cell 0, hw.cell 1, mo, mc, bo, bc, hw.cell 2, hw.cell 3, h1, h2⟩⟩
theorem holds_one {w : World} {ao : Option Addr} {h : Hd} (hh : IsHolds w ao [h]) : ∃ bk off, ao = some ⟨bk, off, none⟩ ∧ bk < w.heap.size ∧ ∃ mo mc bo bc, w.cell? ⟨bk, off, none⟩ = some (.string h.id) ∧ w.cell? ⟨bk, off + 1, none⟩ = some (.string h.vehicle) ∧ w.cell? ⟨bk, off + 2, none⟩ = some (.slice mo h.members.length mc) ∧ w.cell? ⟨bk, off + 3, none⟩ = some (.slice bo h.back.length bc) ∧ IsInts w mo h.members ∧ IsInts w bo h.back := by
  obtain ⟨bk, off, h1, h2, h3⟩ := hh.at (k := 0) (by simp)
  rw [Nat.zero_mul, Nat.add_zero] at h3
  obtain ⟨a0, a1, mo, mc, bo, bc, a2, a3, a4, a5⟩ := h3
  exact ⟨bk, off, h1, h2, mo, mc, bo, bc, a0, a1, a2, a3, a4, a5⟩

theorem wpList_slice_yes {P : Program} {ops : Array Oper} {rest : List Oper} {op : Oper} {a : Act} {w w' : World} {v : Value} {Q : Exit → Act → World → Prop} (hw : Region.wanted op (yielded ops a.tmps) = true) (t : TypeId) (n : Nat) (parts : Array (Nat × Operand)) (ho : op.op = .buildSlice t n parts)
    (vs : Array (Nat × Value)) (hv : parts.map (fun x => (x.1, a.eval x.2)) = vs) (hrun : (Instr.buildSlice t n vs).run P w = .ok v w')
    (h : wpList P ops Q rest (a.put op.dst v) w') : wpList P ops Q (op :: rest) a w :=
  wpList_step fun _ hK => by
    rw [if_pos hw]
    have e : (parts.map fun (x : Nat × Operand) => match x with | (i, y) => (i, a.eval y)) = vs := hv
    unfold Oper.wp execOp
    simp only [ho, e, Sem.run_bind, hrun, Result.andThen, Sem.run_pure]
    exact hK _ _ h
theorem laid {v w : World} {gs : Nat} {ss : List ByteArray} (h1 : Whole v gs 9 (strC ss).toArray) (hb : Below v.heap.size v w) (l : List Rc) (hl : ∀ r ∈ l, RcOk r ∧ (r.members = [] ∨ ∃ gi, r.mo = some ⟨gi, 0, none⟩ ∧ Whole w gi 3 (intsC r.members).toArray)) (cs : List Value) (hcs : cs = recsC l) :
    IsStrs (w.alloc (.cells cs.toArray 54)) (some ⟨gs, 0, none⟩) ss ∧ IsRecs (w.alloc (.cells cs.toArray 54)) (some ⟨w.heap.size, 0, none⟩) l ∧ Below v.heap.size v (w.alloc (.cells cs.toArray 54)) := by
  subst hcs
  refine ⟨strs_of_whole ((whole_below h1 hb).alloc _), recs_of_whole (Whole.new _ _ _) fun r hr => ⟨(hl r hr).1, ?_⟩, below_alloc hb _⟩
  rcases (hl r hr).2 with h | ⟨gi, h, hw⟩
  · rw [h]; exact Or.inl rfl
  · rw [h]; exact ints_of_whole (hw.alloc _)

theorem want_new (w : World) (h : Hd) : IsHolds (((w.alloc (.cells (intsC h.members).toArray 3)).alloc (.cells (intsC h.back).toArray 3)).alloc (.cells #[.string h.id, .string h.vehicle, .slice (some ⟨w.heap.size, 0, none⟩) h.members.length h.members.length, .slice (some ⟨w.heap.size + 1, 0, none⟩) h.back.length h.back.length] 31)) (some ⟨w.heap.size + 1 + 1, 0, none⟩) [h] ∧ Below w.heap.size w (((w.alloc (.cells (intsC h.members).toArray 3)).alloc (.cells (intsC h.back).toArray 3)).alloc (.cells #[.string h.id, .string h.vehicle, .slice (some ⟨w.heap.size, 0, none⟩) h.members.length h.members.length, .slice (some ⟨w.heap.size + 1, 0, none⟩) h.back.length h.back.length] 31)) := by
  obtain ⟨p1, p2, p3⟩ := two_new w (intsC h.members).toArray (intsC h.back).toArray 3 3
  have s1 : ((w.alloc (.cells (intsC h.members).toArray 3)).alloc (.cells (intsC h.back).toArray 3)).heap.size = w.heap.size + 1 + 1 := by rw [size_alloc, size_alloc]
  have p4 := Whole.new ((w.alloc (.cells (intsC h.members).toArray 3)).alloc (.cells (intsC h.back).toArray 3)) 31 #[.string h.id, .string h.vehicle, .slice (some ⟨w.heap.size, 0, none⟩) h.members.length h.members.length, .slice (some ⟨w.heap.size + 1, 0, none⟩) h.back.length h.back.length]
  rw [s1] at p4
  exact ⟨holds_of_whole p4 (ints_of_whole (p1.alloc _)) (ints_of_whole (p2.alloc _)), below_alloc p3 _⟩

set_option maxRecDepth 100000 in
set_option maxHeartbeats 8000000 in
theorem head_any (W : World) : Calls Try.prog 9 #[] W fun e w' => e = .returned (.bool true) ∧ Below W.heap.size W w' := by
  have HMk := Lib.hid (fun mo n mc w => made_any sV mo n mc w)
  have HBk := Lib.hid (fun a w => back_any a sH w)
  unfold sV at HMk
  unfold sH at HBk
  have HA := Lib.hid (fun mo mc io ro ic rc w h1 h2 => all_on (n := 2) (m := 1) (allA mo mc) rfl rfl rfl (by decide) (by decide) (by simp [rMk, rBk, mkR]) io ro ic rc w h1 h2)
  have HB := Lib.hid (fun mo mc io ro ic rc w h1 h2 => all_on (n := 4) (m := 1) (allB mo mc) rfl rfl rfl (by decide) (by decide) (by simp [rMk, rBk, mkR]) io ro ic rc w h1 h2)
  have HC := Lib.hid (fun mo mc io ro ic rc w h1 h2 => all_on (n := 2) (m := 1) (allC mo mc) rfl rfl rfl (by decide) (by decide) (by simp [rMk, rBk, mkR]) io ro ic rc w h1 h2)
  have HSa := Lib.hid (fun pa pb ca cb w h1 h2 => same_true pa pb ca cb [⟨sH, sV, [1, 2], [1]⟩] (by decide) (by decide) w h1 h2)
  have HSb := Lib.hid (fun pa pb ca cb w h1 h2 => same_true pa pb ca cb [⟨sH, sV, [1, 2], [1, 2]⟩] (by decide) (by decide) w h1 h2)
  have HOa : Hid (∀ mo mc bo bc w, IsInts w mo [1, 2] → IsInts w bo [1] → Calls Try.prog 13 #[.agg #[.string ⟨#[104]⟩, .string ⟨#[118, 49]⟩, .slice mo 2 mc, .slice bo 1 bc]] w fun e w' => e = .returned (.bool true) ∧ Below w.heap.size w w') := Lib.hid (fun mo mc bo bc w h1 h2 => by
    have := out_any ⟨sH, sV, [1, 2], [1]⟩ mo mc bo bc (by decide) (by decide) w h1 h2
    rw [show Hld.out ⟨sH, sV, [1, 2], [1]⟩ = true from by kernel_rfl] at this
    exact this)
  have HOb : Hid (∀ mo mc bo bc w, IsInts w mo [1, 2] → IsInts w bo [1, 2] → Calls Try.prog 13 #[.agg #[.string ⟨#[104]⟩, .string ⟨#[118, 49]⟩, .slice mo 2 mc, .slice bo 2 bc]] w fun e w' => e = .returned (.bool false) ∧ Below w.heap.size w w') := Lib.hid (fun mo mc bo bc w h1 h2 => by
    have := out_any ⟨sH, sV, [1, 2], [1, 2]⟩ mo mc bo bc (by decide) (by decide) w h1 h2
    rw [show Hld.out ⟨sH, sV, [1, 2], [1, 2]⟩ = false from by kernel_rfl] at this
    exact this)
  have HNa : Hid (∀ pa ca w, IsHolds w pa [⟨sH, sV, [1, 2], [1]⟩] → Calls Try.prog 16 #[.slice pa 1 ca, .string ⟨#[118, 49]⟩] w fun e w' => ∃ ao cap, e = .returned (.slice ao 1 cap) ∧ Below w.heap.size w w') := Lib.hid (fun pa ca w h => by
    have := on_any pa ca [⟨sH, sV, [1, 2], [1]⟩] sV (by decide) (by decide) w h
    rw [show (List.filter (onB sV) [⟨sH, sV, [1, 2], [1]⟩]).length = 1 from by kernel_rfl] at this
    exact this)
  have HNb : Hid (∀ pa ca w, IsHolds w pa [⟨sH, sV, [1, 2], [1, 2]⟩] → Calls Try.prog 16 #[.slice pa 1 ca, .string ⟨#[118, 49]⟩] w fun e w' => ∃ ao cap, e = .returned (.slice ao 0 cap) ∧ Below w.heap.size w w') := Lib.hid (fun pa ca w h => by
    have := on_any pa ca [⟨sH, sV, [1, 2], [1, 2]⟩] sV (by decide) (by decide) w h
    rw [show (List.filter (onB sV) [⟨sH, sV, [1, 2], [1, 2]⟩]).length = 0 from by kernel_rfl] at this
    exact this)
  have HZ := Lib.hid (fun ro w => all_none none ro 0 1 0 1 (by decide) w)
  go_enter Try.func9, Try.ntmps9
  go_wp2_with fail
  obtain ⟨p1, p2, p3⟩ := two_new W #[.string ⟨#[104]⟩, .string ⟨#[120]⟩] #[.int .i64 1, .int .i64 2] 9 3
  obtain ⟨v1, Hv1⟩ : ∃ v, Hid (v = (W.alloc (.cells #[.string ⟨#[104]⟩, .string ⟨#[120]⟩] 9)).alloc (.cells #[.int .i64 1, .int .i64 2] 3)) := ⟨_, Lib.hid rfl⟩
  rw [← Hv1.out] at p1 p2 p3
  have HP1 := Lib.hid (And.intro p1 (And.intro p2 p3))
  rw [← Hv1.out]
  clear p1 p2 p3
  refine (HMk.out _ _ _ _).mono ?_
  rintro e w1 ⟨rfl, hb1⟩
  have HW1 := Lib.hid hb1
  clear hb1
  go_wp2_with fail
  refine (HBk.out _ _).mono ?_
  rintro e w2 ⟨rfl, hb2⟩
  have HWB := Lib.hid (below_step HW1.out hb2)
  clear hb2
  go_wp2_with (first
    | (with_reducible show wpList _ _ _ (Oper.mk _ (Op.buildSlice 23 _ _) _ _ _ _ :: _) _ _; refine Hid.out ?_))
  refine Lib.hid ?_
  refine wpList_slice rfl _ _ _ rfl #[(0, .agg (mkC 5 0 ⟨#[]⟩ ⟨#[118, 49]⟩ (.slice (some ⟨W.heap.size + 1, 0, none⟩) 2 2)).toArray), (1, .agg (mkC 6 1 ⟨#[104]⟩ ⟨#[]⟩ (.slice none 0 0)).toArray)] (by simp [Act.eval]) (slice_two _ _ _ _ _ _ _ _ _ _ _) ?_
  obtain ⟨q1, q2, q3⟩ := laid (ss := [sH, sX]) HP1.out.1 HWB.out [rMk [1, 2] (some ⟨W.heap.size + 1, 0, none⟩) 2, rBk 1] (by
    intro r hr
    rcases List.mem_cons.1 hr with rfl | hr
    · exact ⟨rMk_ok _ _ _ (by decide), Or.inr ⟨_, rfl, whole_below HP1.out.2.1 HWB.out⟩⟩
    · obtain rfl := List.mem_singleton.1 hr
      exact ⟨rBk_ok _, Or.inl rfl⟩) _ (show mkC 5 0 ⟨#[]⟩ ⟨#[118, 49]⟩ (.slice (some ⟨W.heap.size + 1, 0, none⟩) 2 2) ++ mkC 6 1 ⟨#[104]⟩ ⟨#[]⟩ (.slice none 0 0) = recsC [rMk [1, 2] (some ⟨W.heap.size + 1, 0, none⟩) 2, rBk 1] from by kernel_rfl)
  obtain ⟨v2, Hv2⟩ : ∃ v, Hid (v = w2.alloc (.cells (mkC 5 0 ⟨#[]⟩ ⟨#[118, 49]⟩ (.slice (some ⟨W.heap.size + 1, 0, none⟩) 2 2) ++ mkC 6 1 ⟨#[104]⟩ ⟨#[]⟩ (.slice none 0 0)).toArray 54)) := ⟨_, Lib.hid rfl⟩
  rw [← Hv2.out] at q1 q2 q3
  have HQ := Lib.hid (And.intro q1 (And.intro q2 (HP1.out.2.2.trans (q3.mono HP1.out.2.2.size))))
  clear q1 q2 q3
  rw [← Hv2.out]
  go_wp2_with fail
  refine (HA.out _ _ _ _ _ _ _ HQ.out.1 HQ.out.2.1).mono ?_
  rintro e w3 ⟨ao, acap, rfl, ha, -, hb3⟩
  have HHa := Lib.hid ha
  have HW3 := Lib.hid (below_step HQ.out.2.2 hb3)
  clear ha hb3
  go_wp2_with fail
  obtain ⟨p1, p2, p3⟩ := two_new w3 #[.string ⟨#[104]⟩, .string ⟨#[120]⟩, .string ⟨#[121]⟩, .string ⟨#[122]⟩] #[.int .i64 1, .int .i64 2] 9 3
  obtain ⟨v3, Hv3⟩ : ∃ v, Hid (v = (w3.alloc (.cells #[.string ⟨#[104]⟩, .string ⟨#[120]⟩, .string ⟨#[121]⟩, .string ⟨#[122]⟩] 9)).alloc (.cells #[.int .i64 1, .int .i64 2] 3)) := ⟨_, Lib.hid rfl⟩
  rw [← Hv3.out] at p1 p2 p3
  have HP3 := Lib.hid (And.intro p1 (And.intro p2 p3))
  rw [← Hv3.out]
  clear p1 p2 p3
  refine (HMk.out _ _ _ _).mono ?_
  rintro e w4 ⟨rfl, hb⟩
  have HW4 := Lib.hid hb
  clear hb
  go_wp2_with fail
  refine (HBk.out _ _).mono ?_
  rintro e w5 ⟨rfl, hb⟩
  have HW5 := Lib.hid (below_step HW4.out hb)
  clear hb
  go_wp2_with fail
  refine (HBk.out _ _).mono ?_
  rintro e w6 ⟨rfl, hb⟩
  have HW6 := Lib.hid (below_step HW5.out hb)
  clear hb
  go_wp2_with fail
  refine (HBk.out _ _).mono ?_
  rintro e w7 ⟨rfl, hb⟩
  have HW7 := Lib.hid (below_step HW6.out hb)
  clear hb
  go_wp2_with (first
    | (with_reducible show wpList _ _ _ (Oper.mk _ (Op.buildSlice 23 _ _) _ _ _ _ :: _) _ _; refine Hid.out ?_))
  refine Lib.hid ?_
  refine wpList_slice rfl _ _ _ rfl #[(0, .agg (mkC 5 0 ⟨#[]⟩ ⟨#[118, 49]⟩ (.slice (some ⟨w3.heap.size + 1, 0, none⟩) 2 2)).toArray), (1, .agg (mkC 6 1 ⟨#[104]⟩ ⟨#[]⟩ (.slice none 0 0)).toArray), (2, .agg (mkC 6 2 ⟨#[104]⟩ ⟨#[]⟩ (.slice none 0 0)).toArray), (3, .agg (mkC 6 3 ⟨#[104]⟩ ⟨#[]⟩ (.slice none 0 0)).toArray)] (by simp [Act.eval]) (slice_four _ _ _ _ _ _ _ _ _ _ _ _ _ _ _ _ _ _ _ _ _) ?_
  obtain ⟨q1, q2, q3⟩ := laid (ss := [sH, sX, sY, sZ]) HP3.out.1 HW7.out [rMk [1, 2] (some ⟨w3.heap.size + 1, 0, none⟩) 2, rBk 1, rBk 2, rBk 3] (by
    intro r hr
    rcases List.mem_cons.1 hr with rfl | hr
    · exact ⟨rMk_ok _ _ _ (by decide), Or.inr ⟨_, rfl, whole_below HP3.out.2.1 HW7.out⟩⟩
    rcases List.mem_cons.1 hr with rfl | hr
    · exact ⟨rBk_ok _, Or.inl rfl⟩
    rcases List.mem_cons.1 hr with rfl | hr
    · exact ⟨rBk_ok _, Or.inl rfl⟩
    · obtain rfl := List.mem_singleton.1 hr
      exact ⟨rBk_ok _, Or.inl rfl⟩) _ (show mkC 5 0 ⟨#[]⟩ ⟨#[118, 49]⟩ (.slice (some ⟨w3.heap.size + 1, 0, none⟩) 2 2) ++ (mkC 6 1 ⟨#[104]⟩ ⟨#[]⟩ (.slice none 0 0) ++ (mkC 6 2 ⟨#[104]⟩ ⟨#[]⟩ (.slice none 0 0) ++ mkC 6 3 ⟨#[104]⟩ ⟨#[]⟩ (.slice none 0 0))) = recsC [rMk [1, 2] (some ⟨w3.heap.size + 1, 0, none⟩) 2, rBk 1, rBk 2, rBk 3] from by kernel_rfl)
  obtain ⟨v4, Hv4⟩ : ∃ v, Hid (v = w7.alloc (.cells (mkC 5 0 ⟨#[]⟩ ⟨#[118, 49]⟩ (.slice (some ⟨w3.heap.size + 1, 0, none⟩) 2 2) ++ (mkC 6 1 ⟨#[104]⟩ ⟨#[]⟩ (.slice none 0 0) ++ (mkC 6 2 ⟨#[104]⟩ ⟨#[]⟩ (.slice none 0 0) ++ mkC 6 3 ⟨#[104]⟩ ⟨#[]⟩ (.slice none 0 0)))).toArray 54)) := ⟨_, Lib.hid rfl⟩
  rw [← Hv4.out] at q1 q2 q3
  have HQ4 := Lib.hid (And.intro q1 (And.intro q2 (HP3.out.2.2.trans (q3.mono HP3.out.2.2.size))))
  clear q1 q2 q3
  rw [← Hv4.out]
  go_wp2_with fail
  refine (HB.out _ _ _ _ _ _ _ HQ4.out.1 HQ4.out.2.1).mono ?_
  rintro e w8 ⟨bo, bcap, rfl, hb, -, hb3⟩
  have HHb := Lib.hid hb
  have HW8 := Lib.hid (below_step HQ4.out.2.2 hb3)
  clear hb hb3
  go_wp2_with fail
  refine (HBk.out _ _).mono ?_
  rintro e w9 ⟨rfl, hb⟩
  have HW9 := Lib.hid hb
  clear hb
  obtain ⟨v5, Hv5⟩ : ∃ v, Hid (v = w8.alloc (.cells #[.string ⟨#[120]⟩, .string ⟨#[104]⟩] 9)) := ⟨_, Lib.hid rfl⟩
  have HP5 := Lib.hid (Whole.new w8 9 #[.string ⟨#[120]⟩, .string ⟨#[104]⟩])
  rw [← Hv5.out] at HP5 HW9
  have HB5 : Hid (Below w8.heap.size w8 v5) := Lib.hid (by rw [Hv5.out]; exact (Below.refl _ _).alloc (Nat.le_refl _) _)
  go_wp2_with fail
  obtain ⟨v6, Hv6⟩ : ∃ v, Hid (v = w9.alloc (.cells #[.int .i64 1] 3)) := ⟨_, Lib.hid rfl⟩
  have HP6 := Lib.hid (Whole.new w9 3 #[.int .i64 1])
  have HB6 : Hid (Below v5.heap.size v5 v6) := Lib.hid (by rw [Hv6.out]; exact below_alloc HW9.out _)
  rw [← Hv6.out] at HP6
  rw [← Hv6.out]
  refine (HMk.out _ _ _ _).mono ?_
  rintro e w10 ⟨rfl, hb⟩
  have HWa := Lib.hid hb
  have HWb := Lib.hid (below_step HB6.out hb)
  clear hb
  go_wp2_with (first
    | (with_reducible show wpList _ _ _ (Oper.mk _ (Op.buildSlice 23 _ _) _ _ _ _ :: _) _ _; refine Hid.out ?_))
  refine Lib.hid ?_
  refine wpList_slice rfl _ _ _ rfl #[(0, .agg (mkC 6 1 ⟨#[104]⟩ ⟨#[]⟩ (.slice none 0 0)).toArray), (1, .agg (mkC 5 0 ⟨#[]⟩ ⟨#[118, 49]⟩ (.slice (some ⟨w9.heap.size, 0, none⟩) 1 1)).toArray)] (by simp [Act.eval]) (slice_two _ _ _ _ _ _ _ _ _ _ _) ?_
  obtain ⟨q1, q2, q3⟩ := laid (ss := [sX, sH]) HP5.out HWb.out [rBk 1, rMk [1] (some ⟨w9.heap.size, 0, none⟩) 1] (by
    intro r hr
    rcases List.mem_cons.1 hr with rfl | hr
    · exact ⟨rBk_ok _, Or.inl rfl⟩
    · obtain rfl := List.mem_singleton.1 hr
      exact ⟨rMk_ok _ _ _ (by decide), Or.inr ⟨_, rfl, whole_below HP6.out HWa.out⟩⟩) _ (show mkC 6 1 ⟨#[104]⟩ ⟨#[]⟩ (.slice none 0 0) ++ mkC 5 0 ⟨#[]⟩ ⟨#[118, 49]⟩ (.slice (some ⟨w9.heap.size, 0, none⟩) 1 1) = recsC [rBk 1, rMk [1] (some ⟨w9.heap.size, 0, none⟩) 1] from by kernel_rfl)
  obtain ⟨v7, Hv7⟩ : ∃ v, Hid (v = w10.alloc (.cells (mkC 6 1 ⟨#[104]⟩ ⟨#[]⟩ (.slice none 0 0) ++ mkC 5 0 ⟨#[]⟩ ⟨#[118, 49]⟩ (.slice (some ⟨w9.heap.size, 0, none⟩) 1 1)).toArray 54)) := ⟨_, Lib.hid rfl⟩
  rw [← Hv7.out] at q1 q2 q3
  have HQ7 := Lib.hid (And.intro q1 (And.intro q2 (below_step HB5.out q3)))
  clear q1 q2 q3
  rw [← Hv7.out]
  go_wp2_with fail
  refine (HC.out _ _ _ _ _ _ _ HQ7.out.1 HQ7.out.2.1).mono ?_
  rintro e w11 ⟨co, ccap, rfl, hc, -, hb3⟩
  have HHc := Lib.hid hc
  have HWc := Lib.hid (below_step HQ7.out.2.2 hb3)
  clear hc hb3
  go_wp2_with fail
  obtain ⟨p1, p2⟩ := want_new w11 ⟨sH, sV, [1, 2], [1]⟩
  obtain ⟨v8, Hv8⟩ : ∃ v, Hid (v = ((w11.alloc (.cells #[.int .i64 1, .int .i64 2] 3)).alloc (.cells #[.int .i64 1] 3)).alloc (.cells #[.string ⟨#[104]⟩, .string ⟨#[118, 49]⟩, .slice (some ⟨w11.heap.size, 0, none⟩) 2 2, .slice (some ⟨w11.heap.size + 1, 0, none⟩) 1 1] 31)) := ⟨_, Lib.hid rfl⟩
  change IsHolds (((w11.alloc (.cells #[.int .i64 1, .int .i64 2] 3)).alloc (.cells #[.int .i64 1] 3)).alloc (.cells #[.string ⟨#[104]⟩, .string ⟨#[118, 49]⟩, .slice (some ⟨w11.heap.size, 0, none⟩) 2 2, .slice (some ⟨w11.heap.size + 1, 0, none⟩) 1 1] 31)) _ _ at p1
  change Below _ _ (((w11.alloc (.cells #[.int .i64 1, .int .i64 2] 3)).alloc (.cells #[.int .i64 1] 3)).alloc (.cells #[.string ⟨#[104]⟩, .string ⟨#[118, 49]⟩, .slice (some ⟨w11.heap.size, 0, none⟩) 2 2, .slice (some ⟨w11.heap.size + 1, 0, none⟩) 1 1] 31)) at p2
  rw [← Hv8.out] at p1 p2
  rw [← Hv8.out]
  have HX8 := Lib.hid p1
  have HB8 := Lib.hid (below_step (below_step HW8.out HWc.out) p2)
  have H8c := Lib.hid p2
  clear p1 p2
  refine (HSa.out _ _ _ _ _ (HHa.out.below HB8.out) HX8.out).mono ?_
  rintro e w12 ⟨rfl, hb⟩
  have HB9 := Lib.hid (below_step HB8.out hb)
  have H8d := Lib.hid hb
  clear hb
  obtain ⟨ba, oa, rfl, hba, moa, mca, boa, bca, a0, a1, a2, a3, a4, a5⟩ := holds_one (HHa.out.below HB9.out)
  have HA4 := Lib.hid a4
  have HA5 := Lib.hid a5
  clear a4 a5
  dsimp only [sH, sV, List.length_cons, List.length_nil] at a0 a1 a2 a3
  go_wp2_with fail
  refine (HOa.out _ _ _ _ _ HA4.out HA5.out).mono ?_
  rintro e w13 ⟨rfl, hb⟩
  have HBa := Lib.hid (below_step HB9.out hb)
  have H8e := Lib.hid hb
  clear hb a0 a1 a2 a3
  go_wp2_with fail
  obtain ⟨p1, p2⟩ := want_new w13 ⟨sH, sV, [1, 2], [1, 2]⟩
  obtain ⟨v9, Hv9⟩ : ∃ v, Hid (v = ((w13.alloc (.cells #[.int .i64 1, .int .i64 2] 3)).alloc (.cells #[.int .i64 1, .int .i64 2] 3)).alloc (.cells #[.string ⟨#[104]⟩, .string ⟨#[118, 49]⟩, .slice (some ⟨w13.heap.size, 0, none⟩) 2 2, .slice (some ⟨w13.heap.size + 1, 0, none⟩) 2 2] 31)) := ⟨_, Lib.hid rfl⟩
  change IsHolds (((w13.alloc (.cells #[.int .i64 1, .int .i64 2] 3)).alloc (.cells #[.int .i64 1, .int .i64 2] 3)).alloc (.cells #[.string ⟨#[104]⟩, .string ⟨#[118, 49]⟩, .slice (some ⟨w13.heap.size, 0, none⟩) 2 2, .slice (some ⟨w13.heap.size + 1, 0, none⟩) 2 2] 31)) _ _ at p1
  change Below _ _ (((w13.alloc (.cells #[.int .i64 1, .int .i64 2] 3)).alloc (.cells #[.int .i64 1, .int .i64 2] 3)).alloc (.cells #[.string ⟨#[104]⟩, .string ⟨#[118, 49]⟩, .slice (some ⟨w13.heap.size, 0, none⟩) 2 2, .slice (some ⟨w13.heap.size + 1, 0, none⟩) 2 2] 31)) at p2
  rw [← Hv9.out] at p1 p2
  rw [← Hv9.out]
  have HX9 := Lib.hid p1
  have HBb := Lib.hid (below_step HBa.out p2)
  have H8f := Lib.hid p2
  clear p1 p2
  have hbw : Below w8.heap.size w8 v9 := below_step (below_step HWc.out H8c.out) (below_step H8d.out (below_step H8e.out H8f.out))
  refine (HSb.out _ _ _ _ _ (HHb.out.below hbw) HX9.out).mono ?_
  rintro e w14 ⟨rfl, hb⟩
  have HBc := Lib.hid (below_step HBb.out hb)
  have HBh := Lib.hid hb
  have HBd := Lib.hid (below_step hbw hb)
  clear hb hbw
  obtain ⟨bb, ob, rfl, hbb, mob, mcb, bob, bcb, a0, a1, a2, a3, a4, a5⟩ := holds_one (HHb.out.below HBd.out)
  have HA4 := Lib.hid a4
  have HA5 := Lib.hid a5
  clear a4 a5
  dsimp only [sH, sV, List.length_cons, List.length_nil] at a0 a1 a2 a3
  go_wp2_with fail
  refine (HOb.out _ _ _ _ _ HA4.out HA5.out).mono ?_
  rintro e w15 ⟨rfl, hb⟩
  have HBe := Lib.hid (below_step HBc.out hb)
  have HBf := Lib.hid (below_step HBd.out hb)
  have HBg := Lib.hid (below_step (below_step (below_step H8c.out H8d.out) (below_step H8e.out H8f.out)) (below_step HBh.out hb))
  clear hb a0 a1 a2 a3
  obtain ⟨bc, oc, rfl, hbc, moc, mcc, boc, bcc, a0, a1, a2, a3, a4, a5⟩ := holds_one (HHc.out.below HBg.out)
  clear a4 a5
  dsimp only [sH, sV, List.length_cons, List.length_nil] at a0 a1 a2 a3
  go_wp2_with fail
  clear a0 a1 a2 a3
  refine (HNa.out _ _ _ (HHa.out.below HBe.out)).mono ?_
  rintro e w16 ⟨d1, dc1, rfl, hb⟩
  have HBi := Lib.hid (below_step HBe.out hb)
  have HBj := Lib.hid (below_step HBf.out hb)
  clear hb
  go_wp2_with fail
  refine (HNb.out _ _ _ (HHb.out.below HBj.out)).mono ?_
  rintro e w17 ⟨d2, dc2, rfl, hb⟩
  have HBk2 := Lib.hid (below_step HBi.out hb)
  clear hb
  go_wp2_with fail
  refine (HMk.out _ _ _ _).mono ?_
  rintro e w18 ⟨rfl, hb⟩
  have HBl := Lib.hid (below_step HBk2.out (below_step ((Below.refl w17.heap.size w17).alloc (Nat.le_refl _) (.cells #[.int .i64 1] 3)) hb))
  clear hb
  go_wp2_with (first
    | (with_reducible show wpList _ _ _ (Oper.mk _ (Op.buildSlice 23 _ _) _ _ _ _ :: _) _ _; refine Hid.out ?_))
  refine Lib.hid ?_
  refine wpList_slice_yes rfl _ _ _ rfl #[(0, .agg (mkC 5 0 ⟨#[]⟩ ⟨#[118, 49]⟩ (.slice (some ⟨w17.heap.size, 0, none⟩) 1 1)).toArray)] (by simp [Act.eval]) (slice_one (mkC 5 0 ⟨#[]⟩ ⟨#[118, 49]⟩ (.slice (some ⟨w17.heap.size, 0, none⟩) 1 1)) rfl _) ?_
  obtain ⟨va, Hva⟩ : ∃ v, Hid (v = w18.alloc (.cells (mkC 5 0 ⟨#[]⟩ ⟨#[118, 49]⟩ (.slice (some ⟨w17.heap.size, 0, none⟩) 1 1)).toArray 54)) := ⟨_, Lib.hid rfl⟩
  have HBm : Hid (Below w3.heap.size w3 va) := Lib.hid (by rw [Hva.out]; exact below_alloc HBl.out _)
  rw [← Hva.out]
  go_wp2_with fail
  refine (HZ.out _ _).mono ?_
  rintro e w19 ⟨rfl, hb⟩
  have HBn := Lib.hid (below_step HBm.out hb)
  clear hb
  go_wp2_with fail
  go_ret
  exact ⟨rfl, below_step HW3.out HBn.out⟩

end Go.Proofs.Ytfokbcakbbdlaaa
