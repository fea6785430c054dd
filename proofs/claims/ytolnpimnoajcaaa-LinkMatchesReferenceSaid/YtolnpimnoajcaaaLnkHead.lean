/- The law's made. -/
import Derived.Test.YtolnpimnoajcaaaLnkPick
import Derived.Test.YtolnpimnoajcaaaLnkDbtM
import Derived.Test.YtolnpimnoajcaaaLnkSame
import Derived.Test.YtolnpimnoajcaaaLnkOfA
namespace Go.Proofs.Ytolnpimnoajcaaa
open Go.RowKit
open Evt Lnk

def mkEv (p : ByteArray) : Ev := ⟨1, 0, p, ⟨#[107]⟩, ⟨#[]⟩, ⟨#[]⟩, ⟨#[]⟩, ⟨#[]⟩, 0, 0, 0, 0, 0, 0⟩
set_option maxRecDepth 100000 in
set_option maxHeartbeats 4000000 in
theorem made_any (p : ByteArray) (W : World) :
    Calls Try.prog 24 #[.string p] W fun e w' => ∃ g, e = .returned (.agg #[.slice (some ⟨g, 0, none⟩) 1 1, .bool false]) ∧ Whole w' g 52 (evC (mkEv p)).toArray ∧ W.heap.size ≤ g ∧ Below W.heap.size W w' := by
  obtain ⟨S, HS⟩ : ∃ n, Hid (n = W.heap.size) := ⟨_, Lib.hid rfl⟩
  go_enter Try.func24, Try.ntmps24
  go_wp2_with fail
  obtain ⟨V1, HV1⟩ : ∃ w, Hid (w = W.alloc (.cells #[.slice (some ⟨W.heap.size + 1, 0, none⟩) 1 1, .bool false] 40)) := ⟨_, Lib.hid rfl⟩
  obtain ⟨V, HV⟩ : ∃ w, Hid (w = V1.alloc (.cells (evC (mkEv p)).toArray 52)) := ⟨_, Lib.hid rfl⟩
  have z1 : V1.heap.size = W.heap.size + 1 := by rw [HV1.out, size_alloc]
  have b1 : Below W.heap.size W V1 := by rw [HV1.out]; exact (Below.refl _ _).alloc (Nat.le_refl _) _
  have b2 : Below V1.heap.size V1 V := by rw [HV.out]; exact (Below.refl _ _).alloc (Nat.le_refl _) _
  have hw1 : Whole V W.heap.size 40 #[.slice (some ⟨W.heap.size + 1, 0, none⟩) 1 1, .bool false] := whole_belowM (by rw [HV1.out]; exact Whole.new _ _ _) b2
  have hw2 : Whole V (W.heap.size + 1) 52 (evC (mkEv p)).toArray := by rw [HV.out, ← z1]; exact Whole.new _ _ _
  have e : V = (W.alloc (.cells #[.slice (some ⟨W.heap.size + 1, 0, none⟩) 1 1, .bool false] 40)).alloc (.cells (evC (mkEv p)).toArray 52) := by rw [HV.out, HV1.out]
  rw [show (#[Value.int .i64 1, .int .i64 0, .string p, .string ⟨#[107]⟩, .string ⟨#[]⟩, .string ⟨#[]⟩, .string ⟨#[]⟩, .string ⟨#[]⟩, .int .i64 0, .int .i64 0, .int .i64 0, .int .i64 0, .int .i64 0, .int .i64 0] : Array Value) = (evC (mkEv p)).toArray from rfl, ← e]
  exact bodyPost_ret (results_one (cs := [.slice (some ⟨W.heap.size + 1, 0, none⟩) 1 1, .bool false]) rfl Try.underlying40 rfl _ _ W.heap.size (by kernel_rfl) hw1 rfl) rfl ⟨_, rfl, hw2, by omega, below_step b1 b2⟩
end Go.Proofs.Ytolnpimnoajcaaa

/- The head's values. -/
namespace Go.Proofs.Ytolnpimnoajcaaa
open Go.RowKit
open Evt Lnk

def sA : ByteArray := ⟨#[97]⟩
def sB : ByteArray := ⟨#[98]⟩
def sC : ByteArray := ⟨#[99]⟩
def sX : ByteArray := ⟨#[120]⟩
def fitE : Ev := ⟨2, 0, ⟨#[97]⟩, ⟨#[]⟩, ⟨#[99]⟩, ⟨#[115]⟩, ⟨#[]⟩, ⟨#[]⟩, 0, 0, 0, 0, 0, 0⟩
def headL : List Rp := [⟨[mkEv sA], false⟩, ⟨[mkEv sB], false⟩, ⟨[fitE], true⟩, ⟨[mkEv sC], false⟩]
namespace Lnk
theorem evEq_self (e : Ev) : evEq e e = true := evEq_iff.2 rfl
theorem valid_mk {p : ByteArray} (h : nm p = true) : valid (mkEv p) = true := by
  unfold valid
  rw [show restOf (mkEv p) = zero from rfl, evEq_self, show (mkEv p).part = p from rfl, h, show okE (mkEv p) = true from by kernel_rfl]
  rfl
theorem valid_fit : valid fitE = true := by
  unfold valid
  rw [show restOf fitE = zero from rfl, evEq_self, show nm fitE.part = true from by kernel_rfl, show okE fitE = true from by kernel_rfl]
  rfl
theorem valid_one {e : Ev} {d : Bool} (h : valid e = true) : validR ⟨[e], d⟩ = true := by
  unfold validR okUp
  simp [okAt, h]
theorem srt_sorted {ss : List (List UInt8)} (h : ss.Pairwise (fun x y => decide (x ≤ y) = true)) : srt ss = ss := List.mergeSort_of_pairwise h
theorem names_mk {p : ByteArray} (h : nm p = true) (d : Bool) : namesR ⟨[mkEv p], d⟩ = [bts p] := by
  unfold namesR
  rw [if_pos (valid_one (valid_mk h))]
  have : namesL [mkEv p] = [bts p] := by
    unfold namesL
    simp only [List.flatMap_cons, List.flatMap_nil, List.append_nil, namesE, valid_mk h, if_true]
    rfl
  rw [show (⟨[mkEv p], d⟩ : Rp).opts = [mkEv p] from rfl, this, srt_sorted (by simp)]
  rfl
theorem names_fit (d : Bool) : namesR ⟨[fitE], d⟩ = [[97], [99]] := by
  have hs : ([[97], [99]] : List (List UInt8)).Pairwise (fun x y => decide (x ≤ y) = true) := by decide
  unfold namesR
  rw [if_pos (valid_one valid_fit)]
  have : namesL [fitE] = [[97], [99]] := by
    unfold namesL
    simp only [List.flatMap_cons, List.flatMap_nil, List.append_nil, namesE, valid_fit, if_true, show fitE.op = 2 from rfl]
    exact srt_sorted hs
  rw [show (⟨[fitE], d⟩ : Rp).opts = [fitE] from rfl, this, srt_sorted hs]
  rfl
def hN (i : Nat) : List (List UInt8) := if i = 0 then [[97]] else if i = 1 then [[98]] else if i = 2 then [[97], [99]] else if i = 3 then [[99]] else []
theorem headN : namesAt headL = hN := by
  funext i
  match i with
  | 0 => exact names_mk (p := sA) (by kernel_rfl) false
  | 1 => exact names_mk (p := sB) (by kernel_rfl) false
  | 2 => exact names_fit true
  | 3 => exact names_mk (p := sC) (by kernel_rfl) false
  | n + 4 => unfold namesAt headL hN; simp
def hR (i : Nat) : Nat := if i = 1 then 1 else 0
theorem hR_step {j k : Nat} {x : List UInt8} (hj : j < 4) (hk : k < 4) (h1 : x ∈ hN j) (h2 : x ∈ hN k) : hR j = hR k := by
  have c : ∀ j, j < 4 → j = 0 ∨ j = 1 ∨ j = 2 ∨ j = 3 := fun j h => by omega
  rcases c j hj with rfl | rfl | rfl | rfl <;> rcases c k hk with rfl | rfl | rfl | rfl <;> simp [hN] at h1 h2 <;> first | rfl | (subst h1; simp at h2) | (rcases h1 with rfl | rfl <;> simp at h2)
theorem headConn (a b : Nat) (ha : a < 4) (hb : b < 4) : hR a = hR b ↔ Conn 4 hN a b := by
  have c02 : Conn 4 hN 0 2 := .step (j := 0) (x := [97]) (by decide) (by decide) (.refl _) (by simp [hN]) (by simp [hN])
  have c23 : Conn 4 hN 2 3 := .step (j := 2) (x := [99]) (by decide) (by decide) (.refl _) (by simp [hN]) (by simp [hN])
  have c03 := c02.trans c23
  constructor
  · intro h
    have c : ∀ j, j < 4 → j = 0 ∨ j = 1 ∨ j = 2 ∨ j = 3 := fun j h => by omega
    rcases c a ha with rfl | rfl | rfl | rfl <;> rcases c b hb with rfl | rfl | rfl | rfl <;> first | exact .refl _ | exact c02 | exact c23 | exact c03 | exact c02.symm | exact c23.symm | exact c03.symm | (simp [hR] at h)
  · intro h
    clear hb
    induction h with
    | refl => rfl
    | step hj hk _ h1 h2 ih => rw [ih]; exact hR_step hj hk h1 h2
theorem headG {r : Nat → Nat} (h : ∀ a b, a < 4 → b < 4 → (r a = r b ↔ Conn 4 (namesAt headL) a b)) : groups r 4 = [[0, 2, 3], [1]] := by
  rw [groups_congr (r' := hR) (fun a b ha hb => by rw [h a b ha hb, headN]; exact (headConn a b ha hb).symm)]
  decide
theorem headOfC {r : Nat → Nat} (h : ∀ a b, a < 4 → b < 4 → (r a = r b ↔ Conn 4 (namesAt headL) a b)) : ofA headL sC r = [0, 2, 3] := by
  unfold ofA
  rw [show headL.length = 4 from rfl, headG h]
  have : (([0, 2, 3] : List Nat).any (hasP headL sC)) = true := by
    simp [hasP, headN, hN, bts, sC]
  simp [List.find?, this]
theorem headOfX {r : Nat → Nat} (h : ∀ a b, a < 4 → b < 4 → (r a = r b ↔ Conn 4 (namesAt headL) a b)) : ofA headL sX r = [] := by
  unfold ofA
  rw [show headL.length = 4 from rfl, headG h]
  have h1 : (([0, 2, 3] : List Nat).any (hasP headL sX)) = false := by
    simp [hasP, headN, hN, bts, sX]
  have h2 : (([1] : List Nat).any (hasP headL sX)) = false := by
    simp [hasP, headN, hN, bts, sX]
  simp [List.find?, h1, h2]
theorem choices_one {e : Ev} {d : Bool} (h : valid e = true) : choices ⟨[e], d⟩ = if d then 2 else 1 := by
  unfold choices
  rw [if_pos (valid_one h)]
  rfl
theorem headD : doubts headL = 1 := by
  unfold doubts headL dbt
  simp [List.countP_cons, choices_one (valid_mk (p := sA) (by kernel_rfl)), choices_one (valid_mk (p := sB) (by kernel_rfl)), choices_one (valid_mk (p := sC) (by kernel_rfl)), choices_one valid_fit]
theorem i64_lit (z : Int) (h : (Lit.int .i64 z).wf = true) : I64 z := h
theorem sz_mk {p : ByteArray} (h : St p) : Sz (mkEv p) := ⟨show I64 1 by unfold I64; decide, i64_zero, h, show St ⟨#[107]⟩ by unfold St; decide, st_emp, st_emp, st_emp, st_emp, i64_zero, i64_zero, i64_zero, i64_zero, i64_zero, i64_zero⟩
theorem sz_fit : Sz fitE := ⟨by unfold I64; decide, i64_zero, by unfold St; decide, st_emp, by unfold St; decide, by unfold St; decide, st_emp, st_emp, i64_zero, i64_zero, i64_zero, i64_zero, i64_zero, i64_zero⟩
end Lnk
end Go.Proofs.Ytolnpimnoajcaaa

/- The laws' head. -/
namespace Go.Proofs.Ytolnpimnoajcaaa
open Go.RowKit
open Evt Lnk

theorem two_newL (W : World) (c1 c2 : Array Value) (t1 t2 : TypeId) : Whole ((W.alloc (.cells c1 t1)).alloc (.cells c2 t2)) W.heap.size t1 c1 ∧ Whole ((W.alloc (.cells c1 t1)).alloc (.cells c2 t2)) (W.heap.size + 1) t2 c2 ∧ Below W.heap.size W ((W.alloc (.cells c1 t1)).alloc (.cells c2 t2)) := by
  have s1 : (W.alloc (.cells c1 t1)).heap.size = W.heap.size + 1 := size_alloc _ _
  refine ⟨(Whole.new _ _ _).alloc _, ?_, ((Below.refl _ _).alloc (Nat.le_refl _) _).alloc (by rw [s1]; omega) _⟩
  have := Whole.new (W.alloc (.cells c1 t1)) t2 c2
  rw [s1] at this
  exact this
/-- A report of one event, as made lays it. -/
def Rp1 (e : Ev) (d : Bool) (u : Value) (w : World) : Prop := ∃ g, u = .agg #[.slice (some ⟨g, 0, none⟩) 1 1, .bool d] ∧ Whole w g 52 (evC e).toArray
theorem Rp1.below {e : Ev} {d : Bool} {u : Value} {w w' : World} (h : Rp1 e d u w) (hb : Below w.heap.size w w') : Rp1 e d u w' := by
  obtain ⟨g, h1, h2⟩ := h
  exact ⟨g, h1, whole_belowM h2 hb⟩
theorem Rp1.el {e : Ev} {d : Bool} {a b : Value} {w : World} (h : Rp1 e d (.agg #[a, b]) w) (hz : Sz e) : ElRp w [a, b] ⟨[e], d⟩ := by
  obtain ⟨g, h1, h2⟩ := h
  injection h1 with h1
  injection h1 with h1
  rw [h1]
  refine ⟨some ⟨g, 0, none⟩, 1, rfl, IsL.whole (t := 52) (css := [evC e]) (by simpa using h2) rfl (by simp [evC_len]) ?_, by simp, by decide⟩
  intro k hk hk'
  obtain rfl : k = 0 := by simp at hk; exact hk
  exact ⟨rfl, hz⟩
def hdP : Nat → Value → World → Prop
  | 0, v, w => Rp1 (mkEv sA) false v w
  | 1, v, w => Rp1 (mkEv sB) false v w
  | 2, v, w => Rp1 fitE true v w
  | 3, v, w => Rp1 (mkEv sC) false v w
  | 4, v, w => ∃ g, v = .slice (some ⟨g, 0, none⟩) 4 4 ∧ IsL 2 ElRp w (some ⟨g, 0, none⟩) headL
  | 5, v, w => ∃ g, v = .slice (some ⟨g, 0, none⟩) 4 4 ∧ IsL 2 ElRp w (some ⟨g, 0, none⟩) headL
  | _, _, _ => True
theorem hdP_below : ∀ j u w w', hdP j u w → Below w.heap.size w w' → hdP j u w'
  | 0, _, _, _, h, hb => h.below hb
  | 1, _, _, _, h, hb => h.below hb
  | 2, _, _, _, h, hb => h.below hb
  | 3, _, _, _, h, hb => h.below hb
  | 4, _, _, _, ⟨g, h1, h2⟩, hb => ⟨g, h1, h2.below stRp hb⟩
  | 5, _, _, _, ⟨g, h1, h2⟩, hb => ⟨g, h1, h2.below stRp hb⟩
  | _ + 6, _, _, _, _, _ => trivial
section
variable (d : Option Tmp) (t : TypeId) (pos : String) (af : Array Edge) (g : Option (Nat × Bool)) (A : Act) (w : World)
set_option maxRecDepth 100000 in
theorem run_fourR (x y z u : Tmp) (a0 a1 b0 b1 c0 c1 d0 d1 : Value) (hx : A.eval (.tmp x) = .agg #[a0, a1]) (hy : A.eval (.tmp y) = .agg #[b0, b1]) (hz : A.eval (.tmp z) = .agg #[c0, c1]) (hu : A.eval (.tmp u) = .agg #[d0, d1]) :
    (execOp A.eval ⟨d, .buildSlice 22 4 #[(0, .tmp x), (1, .tmp y), (2, .tmp z), (3, .tmp u)], t, pos, af, g⟩).run Try.prog w = .ok (.value (.slice (some ⟨w.heap.size, 0, none⟩) 4 4)) (w.alloc (.cells #[a0, a1, b0, b1, c0, c1, d0, d1] 40)) := by
  unfold execOp
  simp only [hx, hy, hz, hu, List.map_toArray, List.map_cons, List.map_nil]
  go_simp
end
theorem Rp1.shape {e : Ev} {d : Bool} {u : Value} {w : World} (h : Rp1 e d u w) : ∃ a b, u = .agg #[a, b] := by
  obtain ⟨g, rfl, _⟩ := h
  exact ⟨_, _, rfl⟩
theorem headIs {w : World} {a0 a1 b0 b1 c0 c1 d0 d1 : Value} (h0 : Rp1 (mkEv sA) false (.agg #[a0, a1]) w) (h1 : Rp1 (mkEv sB) false (.agg #[b0, b1]) w) (h2 : Rp1 fitE true (.agg #[c0, c1]) w) (h3 : Rp1 (mkEv sC) false (.agg #[d0, d1]) w) :
    IsL 2 ElRp (w.alloc (.cells #[a0, a1, b0, b1, c0, c1, d0, d1] 40)) (some ⟨w.heap.size, 0, none⟩) headL := by
  have hb : Below w.heap.size w (w.alloc (.cells #[a0, a1, b0, b1, c0, c1, d0, d1] 40)) := (Below.refl _ _).alloc (Nat.le_refl _) _
  refine IsL.whole (t := 40) (css := [[a0, a1], [b0, b1], [c0, c1], [d0, d1]]) (Whole.new _ _ _) rfl (by simp) ?_
  intro k hk hk'
  have hk4 : k < 4 := hk
  have c : k = 0 ∨ k = 1 ∨ k = 2 ∨ k = 3 := by omega
  rcases c with rfl | rfl | rfl | rfl
  · exact (h0.below hb).el (sz_mk (by unfold St sA; decide))
  · exact (h1.below hb).el (sz_mk (by unfold St sB; decide))
  · exact (h2.below hb).el sz_fit
  · exact (h3.below hb).el (sz_mk (by unfold St sC; decide))
theorem isN_whole {w : World} {b c : Nat} {l : List Nat} (h : Whole w b 3 (natC l).toArray) : IsN w (.slice (some ⟨b, 0, none⟩) l.length c) l :=
  ⟨_, c, rfl, fun j hj => ⟨b, rfl, h.lt, by rw [h.cell]; unfold natC; simp [hj]⟩⟩
set_option maxRecDepth 100000 in
theorem lit_nn (w : World) : IsNN (((w.alloc (.cells #[.int .i64 0, .int .i64 2, .int .i64 3] 3)).alloc (.cells #[.int .i64 1] 3)).alloc (.cells #[.slice (some ⟨w.heap.size, 0, none⟩) 3 3, .slice (some ⟨w.heap.size + 1, 0, none⟩) 1 1] 29)) (.slice (some ⟨w.heap.size + 1 + 1, 0, none⟩) 2 2) [[0, 2, 3], [1]] ∧
    Below w.heap.size w (((w.alloc (.cells #[.int .i64 0, .int .i64 2, .int .i64 3] 3)).alloc (.cells #[.int .i64 1] 3)).alloc (.cells #[.slice (some ⟨w.heap.size, 0, none⟩) 3 3, .slice (some ⟨w.heap.size + 1, 0, none⟩) 1 1] 29)) := by
  obtain ⟨p1, p2, p3⟩ := two_newL w #[.int .i64 0, .int .i64 2, .int .i64 3] #[.int .i64 1] 3 3
  obtain ⟨v, hv⟩ : ∃ v, v = (w.alloc (.cells #[.int .i64 0, .int .i64 2, .int .i64 3] 3)).alloc (.cells #[.int .i64 1] 3) := ⟨_, rfl⟩
  have s2 : v.heap.size = w.heap.size + 1 + 1 := by rw [hv, size_alloc, size_alloc]
  rw [← hv] at p1 p2 p3 ⊢
  have p4 := Whole.new v 29 #[.slice (some ⟨w.heap.size, 0, none⟩) 3 3, .slice (some ⟨w.heap.size + 1, 0, none⟩) 1 1]
  rw [s2] at p4
  refine ⟨⟨_, 2, rfl, fun j hj => ?_⟩, below_alloc p3 _⟩
  have hj2 : j < 2 := hj
  have c : j = 0 ∨ j = 1 := by omega
  rcases c with rfl | rfl
  · exact ⟨_, _, rfl, p4.lt, p4.cell 0, isN_whole (l := [0, 2, 3]) (p1.alloc _)⟩
  · exact ⟨_, _, rfl, p4.lt, p4.cell 1, isN_whole (l := [1]) (p2.alloc _)⟩

set_option maxRecDepth 100000 in
set_option maxHeartbeats 8000000 in
theorem head_any (W : World) : Calls Try.prog 10 #[] W fun e w' => e = .returned (.bool true) ∧ Below W.heap.size W w' := by
  have HMk := Lib.hid (@made_any)
  have HCm := Lib.hid (fun ao w (h : IsL 2 ElRp w ao headL) => comp_any coll_any ao headL 4 (by decide) w h)
  have HOf := Lib.hid (fun ao x w (h : IsL 2 ElRp w ao headL) => linkOf_any headL ao 4 x (by decide) w h)
  have HDb := Lib.hid (fun ao w (h : IsL 2 ElRp w ao headL) => doubts_any ao headL 4 (by decide) w h)
  rw [show headL.length = 4 from rfl] at HCm HOf HDb
  obtain ⟨S, HS⟩ : ∃ n, Hid (n = W.heap.size) := ⟨_, Lib.hid rfl⟩
  obtain ⟨p1, p2, p3⟩ := two_newL W (evC fitE).toArray #[.slice (some ⟨W.heap.size, 0, none⟩) 1 1, .bool true] 52 40
  obtain ⟨V, HV⟩ : ∃ v, Hid (v = (W.alloc (.cells (evC fitE).toArray 52)).alloc (.cells #[.slice (some ⟨W.heap.size, 0, none⟩) 1 1, .bool true] 40)) := ⟨_, Lib.hid rfl⟩
  rw [← HV.out] at p1 p2 p3
  have HP := Lib.hid (And.intro p1 (And.intro p2 p3))
  clear p1 p2 p3
  go_enter Try.func10, Try.ntmps10
  go_wp2_with fail
  rw [show (#[Value.int .i64 2, .int .i64 0, .string ⟨#[97]⟩, .string ⟨#[]⟩, .string ⟨#[99]⟩, .string ⟨#[115]⟩, .string ⟨#[]⟩, .string ⟨#[]⟩, .int .i64 0, .int .i64 0, .int .i64 0, .int .i64 0, .int .i64 0, .int .i64 0] : Array Value) = (evC fitE).toArray from rfl, ← HV.out]
  apply wp_region_monoL 34 hdP hdP_below (by kernel_rfl) (by kernel_rfl) rfl
  · intro i o ho w A' hlow hsee haway
    have s1 : A'.eval (.tmp 1) = .pointer (some ⟨W.heap.size + 1, 0, none⟩) := (haway 1 (by kernel_rfl)).trans rfl
    have hi : i < 6 := by have := (List.getElem?_eq_some_iff.1 ho).1; simpa using this
    have hi : i = 0 ∨ i = 1 ∨ i = 2 ∨ i = 3 ∨ i = 4 ∨ i = 5 := by omega
    rcases hi with rfl | rfl | rfl | rfl | rfl | rfl
    all_goals
      simp only [List.getElem?_cons_succ, List.getElem?_cons_zero, Option.some.injEq] at ho
      subst ho
    · refine wp_of_callL _ _ _ _ _ _ _ 24 _ [.const (.string ⟨#[97]⟩)] [.string sA] rfl rfl ((HMk.out _ _).mono ?_)
      rintro e w2 ⟨g, rfl, hw, _, hb⟩
      exact ⟨_, rfl, _, rfl, hb, g, rfl, hw⟩
    · refine wp_of_callL _ _ _ _ _ _ _ 24 _ [.const (.string ⟨#[98]⟩)] [.string sB] rfl rfl ((HMk.out _ _).mono ?_)
      rintro e w2 ⟨g, rfl, hw, _, hb⟩
      exact ⟨_, rfl, _, rfl, hb, g, rfl, hw⟩
    · have q := whole_belowM HP.out.2.1 hlow
      exact wp_of_runL (run_loadRp _ _ _ _ _ _ _ 1 _ 0 _ _ s1 (q.cell 0) (q.cell 1)) ⟨_, rfl, Below.refl _ _, _, rfl, whole_belowM HP.out.1 hlow⟩
    · refine wp_of_callL _ _ _ _ _ _ _ 24 _ [.const (.string ⟨#[99]⟩)] [.string sC] rfl rfl ((HMk.out _ _).mono ?_)
      rintro e w2 ⟨g, rfl, hw, _, hb⟩
      exact ⟨_, rfl, _, rfl, hb, g, rfl, hw⟩
    · have q0 : Rp1 (mkEv sA) false (A'.eval (.tmp 6)) w := hsee 6 (by decide) 0 rfl
      have q1 : Rp1 (mkEv sB) false (A'.eval (.tmp 7)) w := hsee 7 (by decide) 1 rfl
      have q2 : Rp1 fitE true (A'.eval (.tmp 8)) w := hsee 8 (by decide) 2 rfl
      have q3 : Rp1 (mkEv sC) false (A'.eval (.tmp 9)) w := hsee 9 (by decide) 3 rfl
      obtain ⟨a0, a1, e0⟩ := q0.shape
      obtain ⟨b0, b1, e1⟩ := q1.shape
      obtain ⟨c0, c1, e2⟩ := q2.shape
      obtain ⟨d0, d1, e3⟩ := q3.shape
      rw [e0] at q0
      rw [e1] at q1
      rw [e2] at q2
      rw [e3] at q3
      exact wp_of_runL (run_fourR _ _ _ _ _ _ _ 6 7 8 9 _ _ _ _ _ _ _ _ e0 e1 e2 e3) ⟨_, rfl, (Below.refl _ _).alloc (Nat.le_refl _) _, _, rfl, headIs q0 q1 q2 q3⟩
    · obtain ⟨g, q4, q5⟩ : ∃ g, A'.eval (.tmp 10) = .slice (some ⟨g, 0, none⟩) 4 4 ∧ IsL 2 ElRp w (some ⟨g, 0, none⟩) headL := hsee 10 (by decide) 4 rfl
      exact wp_of_runL (run_assignL _ _ _ _ _ _ _ 10 _ q4) ⟨_, rfl, Below.refl _ _, g, rfl, q5⟩
  intro e w5 hlow hall
  obtain ⟨v0, e0, -⟩ := hall 0 (by decide)
  obtain ⟨v1, e1, -⟩ := hall 1 (by decide)
  obtain ⟨v2, e2, -⟩ := hall 2 (by decide)
  obtain ⟨v3, e3, -⟩ := hall 3 (by decide)
  obtain ⟨v4, e4, -⟩ := hall 4 (by decide)
  obtain ⟨v5, e5, g, rfl, hl⟩ := hall 5 (by decide)
  have HB := Lib.hid (below_step HP.out.2.2 hlow)
  have HL := Lib.hid hl
  simp only [List.length_cons, List.length_nil, Nat.reduceAdd, fillTo, e0, e1, e2, e3, e4, e5, dstOf]
  clear e0 e1 e2 e3 e4 e5 hlow hall hl
  go_wp2_with fail
  refine (HCm.out _ _ HL.out).mono ?_
  rintro e w6 ⟨sv, r, rfl, hr, hs, hb⟩
  have hg := headG hr
  rw [show headL.length = 4 from rfl, hg] at hs
  have HNN := Lib.hid (IsNN.sets hs)
  have HB6 := Lib.hid (below_step HB.out hb)
  have HL6 := Lib.hid (HL.out.below stRp hb)
  clear hr hs hb hg
  obtain ⟨Z, HZ⟩ : ∃ v, Hid (v = ((w6.alloc (.cells #[.int .i64 0, .int .i64 2, .int .i64 3] 3)).alloc (.cells #[.int .i64 1] 3)).alloc (.cells #[.slice (some ⟨w6.heap.size, 0, none⟩) 3 3, .slice (some ⟨w6.heap.size + 1, 0, none⟩) 1 1] 29)) := ⟨_, Lib.hid rfl⟩
  have hz := lit_nn w6
  rw [← HZ.out] at hz
  have HZ2 := Lib.hid hz
  clear hz
  go_wp2_with fail
  rw [← HZ.out]
  refine (same_any [[0, 2, 3], [1]] [[0, 2, 3], [1]] (by decide) (by decide) (by decide) (by decide) _ _ _ (HNN.out.below HZ2.out.2) HZ2.out.1).mono ?_
  rintro e w7 ⟨rfl, hb⟩
  have HB7 := Lib.hid (below_step (below_step HB6.out HZ2.out.2) hb)
  have HL7 := Lib.hid ((HL6.out.below stRp HZ2.out.2).below stRp hb)
  clear hb
  rw [show (decide (([[0, 2, 3], [1]] : List (List Nat)) = [[0, 2, 3], [1]])) = true from by decide]
  go_wp2_with fail
  refine (HOf.out _ sC _ HL7.out).mono ?_
  rintro e w8 ⟨ov, r8, rfl, hr, hn, hb⟩
  rw [headOfC hr] at hn
  have HN8 := Lib.hid hn
  have HB8 := Lib.hid (below_step HB7.out hb)
  have HL8 := Lib.hid (HL7.out.below stRp hb)
  clear hr hn hb
  obtain ⟨Y, HY⟩ : ∃ v, Hid (v = w8.alloc (.cells #[.int .i64 0, .int .i64 2, .int .i64 3] 3)) := ⟨_, Lib.hid rfl⟩
  have HY2 : Hid (IsN Y (.slice (some ⟨w8.heap.size, 0, none⟩) 3 3) [0, 2, 3] ∧ Below w8.heap.size w8 Y) := Lib.hid (by rw [HY.out]; exact ⟨isN_whole (l := [0, 2, 3]) (Whole.new _ _ _), (Below.refl _ _).alloc (Nat.le_refl _) _⟩)
  go_wp2_with fail
  rw [← HY.out]
  refine (ints_any [0, 2, 3] [0, 2, 3] (by decide) (by decide) _ _ _ (HN8.out.below HY2.out.2) HY2.out.1).mono ?_
  rintro e w9 ⟨rfl, hb⟩
  have HB9 := Lib.hid (below_step (below_step HB8.out HY2.out.2) hb)
  have HL9 := Lib.hid ((HL8.out.below stRp HY2.out.2).below stRp hb)
  clear hb
  rw [show (decide (([0, 2, 3] : List Nat) = [0, 2, 3])) = true from by decide]
  go_wp2_with fail
  refine (HOf.out _ sX _ HL9.out).mono ?_
  rintro e wa ⟨ox, ra, rfl, hr, hn, hb⟩
  rw [headOfX hr] at hn
  have HBa := Lib.hid (below_step HB9.out hb)
  have HLa := Lib.hid (HL9.out.below stRp hb)
  obtain ⟨ao, c, rfl, -⟩ := hn
  rw [show (([] : List Nat).length) = 0 from rfl]
  clear hr hb
  go_wp2_with fail
  refine (HDb.out _ _ HLa.out).mono ?_
  rintro e wb ⟨rfl, hb⟩
  have HBb := Lib.hid (below_step HBa.out hb)
  clear hb
  rw [headD]
  go_wp2_with fail
  go_ret
  exact ⟨rfl, HBb.out⟩
end Go.Proofs.Ytolnpimnoajcaaa
