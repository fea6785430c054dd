/- strings.Replacer.build for the six strings that Quote gives it. -/
import Derived.Test.YtocbebkcpmodnaaLexBsr
import Derived.Test.YtocbebkcpmodnaaLexClasses
import Derived.ArgAppend
import Derived.Laws.CopyOwn
import Derived.Laws.IdiomCopy
namespace Go.Proofs.Ytocbebkcpmodnaa
open Go.RowKit

namespace Lex
/-- The six strings. -/
def six : List ByteArray := [⟨#[92]⟩, ⟨#[92, 92]⟩, ⟨#[34]⟩, ⟨#[92, 34]⟩, ⟨#[10]⟩, ⟨#[92, 110]⟩]
def old (j : Nat) : UInt8 := if j = 0 then 92 else if j = 1 then 34 else 10
def new (j : Nat) : UInt8 := if j = 0 then 92 else if j = 1 then 34 else 110
theorem six_old {j : Nat} (h : j < 3) : six[2 * j]? = some ⟨#[old j]⟩ := by
  match j, h with
  | 0, _ => rfl
  | 1, _ => rfl
  | 2, _ => rfl
theorem six_new {j : Nat} (h : j < 3) : six[2 * j + 1]? = some ⟨#[92, new j]⟩ := by
  match j, h with
  | 0, _ => rfl
  | 1, _ => rfl
  | 2, _ => rfl
theorem old_rep {j : Nat} (h : j < 3) : repB (old j).toNat = [92, new j] := by
  match j, h with
  | 0, _ => rfl
  | 1, _ => rfl
  | 2, _ => rfl
/-- The bytes that have been seen in k rounds, from the last pair on. -/
def seen (k : Nat) (c : Nat) : Prop := (1 ≤ k ∧ c = 10) ∨ (2 ≤ k ∧ c = 34) ∨ (3 ≤ k ∧ c = 92)
theorem seen_step {k : Nat} (h : k < 3) (c : Nat) : seen (k + 1) c ↔ seen k c ∨ c = (old (2 - k)).toNat := by
  match k, h with
  | 0, _ => unfold seen; show _ ↔ _ ∨ c = 10; omega
  | 1, _ => unfold seen; show _ ↔ _ ∨ c = 34; omega
  | 2, _ => unfold seen; show _ ↔ _ ∨ c = 92; omega
theorem not_seen {k : Nat} (h : k < 3) : ¬ seen k (old (2 - k)).toNat := by
  match k, h with
  | 0, _ => unfold seen; show ¬ (_ ∨ _); omega
  | 1, _ => unfold seen; show ¬ ((_ ∧ 34 = 10) ∨ (_ ∧ 34 = 34) ∨ _); omega
  | 2, _ => unfold seen; show ¬ ((_ ∧ 92 = 10) ∨ (_ ∧ 92 = 34) ∨ (_ ∧ 92 = 92)); omega
theorem seen_zero (c : Nat) : ¬ seen 0 c := by unfold seen; omega
theorem seen_three (c : Nat) : seen 3 c ↔ repB c ≠ [] := by
  unfold seen repB
  by_cases h1 : c = 92
  · simp [h1]
  · by_cases h2 : c = 34
    · simp [h2]
    · by_cases h3 : c = 10
      · simp [h3]
      · simp [h1, h2, h3]
theorem seen_rep {k c : Nat} (h : seen k c) : ∃ q, repB c = [92, q] := by
  rcases rep_two c with hr | hr
  · exfalso
    have : seen 3 c := by unfold seen at h ⊢; omega
    exact (seen_three c).1 this hr
  · exact hr
/-- The list of bytes to be replaced, after k rounds. -/
def xsK (k : Nat) : List Value := if k = 0 then [.string ⟨#[]⟩, .string ⟨#[]⟩, .string ⟨#[]⟩] else if k = 1 then [.string ⟨#[10]⟩, .string ⟨#[]⟩, .string ⟨#[]⟩] else if k = 2 then [.string ⟨#[10]⟩, .string ⟨#[34]⟩, .string ⟨#[]⟩] else [.string ⟨#[10]⟩, .string ⟨#[34]⟩, .string ⟨#[92]⟩]
theorem xsK_step {k : Nat} (h : k < 3) : xsK (k + 1) = (xsK k).set k (.string ⟨#[old (2 - k)]⟩) := by
  match k, h with
  | 0, _ => rfl
  | 1, _ => rfl
  | 2, _ => rfl
theorem xsK_len (k : Nat) : (xsK k).length = 3 :=
  match k with
  | 0 => rfl
  | 1 => rfl
  | 2 => rfl
  | n + 3 => rfl
end Lex

theorem wpList_append_run {P : Program} {w w' : World} {ops : Array Oper} {rest : List Oper} {o : Oper} {a : Act} {Q : Exit → Act → World → Prop} (hgd : o.guard = none) (s x : Operand) (sT xT : TypeId)
    (ho : o.op = .call { callee := .builtin .append, args := #[s, x], argTypes := #[sT, xT] }) (u v r : Value) (hs : a.eval s = u) (hx : a.eval x = v) (hrun : (Builtin.append_ #[sT, xT] o.type #[u, v]).run P w = .ok r w')
    (h : wpList P ops Q rest (a.put o.dst r) w') : wpList P ops Q (o :: rest) a w := by
  refine wpList_plain hgd fun K hK => ?_
  unfold Oper.wp
  simp [execOp, ho, resolve, invoke, builtin, hs, hx, hrun, Result.andThen]
  exact hK _ _ h

/-- The six strings in memory. -/
def Six (W : World) (A : Nat) : Prop := A < W.heap.size ∧ ∀ i s, Lex.six[i]? = some s → W.cell? ⟨A, i, none⟩ = some (.string s)
theorem Six.below {W w : World} {A : Nat} (h : Six W A) (hb : Below W.heap.size W w) : Six w A :=
  ⟨Nat.lt_of_lt_of_le h.1 hb.size, fun i s hs => (cell_below hb h.1 i).trans (h.2 i s hs)⟩

/-- The table after k rounds. -/
structure TabK (W : World) (B T X k : Nat) (cs : Array Value) : Prop where
  size : cs.size = 257
  row : Whole W T 106 cs
  list : cs[256]? = some (.slice (some ⟨X, 0, none⟩) k 3)
  texts : Whole W X 9 (Lex.xsK k).toArray
  no : ∀ c, c < 256 → ¬ Lex.seen k c → cs[c]? = some (.slice none 0 0)
  yes : ∀ c q, c < 256 → Lex.seen k c → Lex.repB c = [92, q] → ∃ b cap, cs[c]? = some (.slice (some ⟨b, 0, none⟩) 2 cap) ∧ B ≤ b ∧ b ≠ T ∧ b ≠ X ∧ b < W.heap.size ∧ W.cell? ⟨b, 0, none⟩ = some (.int .u8 92) ∧ W.cell? ⟨b, 1, none⟩ = some (.int .u8 q.toNat)
theorem TabK.tab {W : World} {B T X : Nat} {cs : Array Value} (h : TabK W B T X 3 cs) : Tab W T cs X :=
  ⟨h.size, h.row, h.list, h.texts, fun c hc hr => h.no c hc fun hs => (Lex.seen_three c).1 hs hr, fun c q hc hr => by
    obtain ⟨b, cap, h1, _, _, _, h2, h3, h4⟩ := h.yes c q hc ((Lex.seen_three c).2 (by rw [hr]; simp)) hr
    exact ⟨b, cap, h1, h2, h3, h4⟩⟩

theorem zero_table : Try.zeroCells106.toList = List.replicate 257 (.slice none 0 0) := by kernel_rfl
theorem table_set {w : World} {T : Nat} (v : Value) (hv : v.oneCell' = true) (h : Whole w T 106 Try.zeroCells106) :
    (storeCells ⟨T, 0, none⟩ (Try.zeroCells106.toList.set 256 v)).run Try.prog w = .ok () (w.setRow T (Try.zeroCells106.toList.set 256 v).toArray) := by
  have hz : Try.zeroCells106.size = 257 := by rw [← Array.length_toList, zero_table, List.length_replicate]
  have := run_storeCells_from (P := Try.prog) T 106 (Try.zeroCells106.toList.set 256 v) 0 _ w h (by rw [List.length_set, Array.length_toList]; omega) (fun u hu => by
    rcases List.mem_or_eq_of_mem_set hu with h1 | h1
    · rw [zero_table] at h1
      rw [List.eq_of_mem_replicate h1]; rfl
    · rw [h1]; exact hv)
  simpa [hz] using this
theorem table_zero {w : World} {B T X : Nat} (h : Whole w T 106 (Try.zeroCells106.toList.set 256 (.slice (some ⟨X, 0, none⟩) 0 3)).toArray) (hX : Whole w X 9 (Lex.xsK 0).toArray) :
    TabK w B T X 0 (Try.zeroCells106.toList.set 256 (.slice (some ⟨X, 0, none⟩) 0 3)).toArray := by
  refine ⟨?_, h, ?_, hX, fun c hc _ => ?_, fun c q _ hs _ => (Lex.seen_zero c hs).elim⟩
  · rw [List.size_toArray, List.length_set, zero_table, List.length_replicate]
  · rw [List.getElem?_toArray, zero_table, List.getElem?_set_self (by rw [List.length_replicate]; omega)]
  · rw [List.getElem?_toArray, zero_table, List.getElem?_set_ne (by omega), List.getElem?_replicate, if_pos (by omega)]

theorem cell_new (w : World) (cs : Array Value) (e : TypeId) (fr : Nat × Nat) (i : Nat) : (w.alloc (.cells cs e fr)).cell? ⟨w.heap.size, i, none⟩ = cs[i]? := by
  have h := heap_alloc_new w (.cells cs e fr)
  simp only [World.cell?, h]
  rfl
theorem conv_two (n : ByteArray) (p q : UInt8) (hn : n = ⟨#[p, q]⟩) : ∃ (cp : World → Nat) (bw : World → World), (∀ w, (convert 9 86 (.string n)).run Try.prog w = .ok (.slice (some ⟨w.heap.size, 0, none⟩) 2 (cp w)) (bw w)) ∧
    ∀ w, Below w.heap.size w (bw w) ∧ (bw w).heap.size = w.heap.size + 1 ∧ (bw w).cell? ⟨w.heap.size, 0, none⟩ = some (.int .u8 p.toNat) ∧ (bw w).cell? ⟨w.heap.size, 1, none⟩ = some (.int .u8 q.toNat) := by
  subst hn
  refine ⟨_, _, fun w => run_bytes_of_string w 9 86 5 _ Try.underlying9 Try.underlying86 Try.underlying5, fun w => ⟨?_, ?_, ?_, ?_⟩⟩
  · exact ⟨rfl, rfl, rfl, by rw [size_alloc]; show w.heap.size ≤ w.heap.size + 1; omega, fun k hk => Below.heap_alloc w.drew _ k hk⟩
  · rw [size_alloc]; rfl
  · refine (cell_new w.drew _ _ _ 0).trans ?_
    exact bytesRow_at _ _ 0 (by show 0 < 2; omega)
  · refine (cell_new w.drew _ _ _ 1).trans ?_
    exact bytesRow_at _ _ 1 (by show 1 < 2; omega)

theorem tabK_step {w v3 v5 : World} {B T X k cap : Nat} {cs : Array Value} {c q : UInt8} (hk : k < 3) (hc : c = Lex.old (2 - k)) (h : TabK w B T X k cs) (hXT : X ≠ T) (hBX : B ≤ X) (hBT : B ≤ T) (hO : Only (fun x => x = X) w v3) (hx : Whole v3 X 9 (Lex.xsK (k + 1)).toArray) (hq : Lex.repB c.toNat = [92, q])
    (hb : Below v3.heap.size (v3.setCell ⟨T, 256, none⟩ (.slice (some ⟨X, 0, none⟩) (k + 1) 3)) v5) (hlt : v3.heap.size < v5.heap.size) (c0 : v5.cell? ⟨v3.heap.size, 0, none⟩ = some (.int .u8 92)) (c1 : v5.cell? ⟨v3.heap.size, 1, none⟩ = some (.int .u8 q.toNat)) :
    Below B w (v5.setCell ⟨T, c.toNat, none⟩ (.slice (some ⟨v3.heap.size, 0, none⟩) 2 cap)) ∧ ∃ cs', TabK (v5.setCell ⟨T, c.toNat, none⟩ (.slice (some ⟨v3.heap.size, 0, none⟩) 2 cap)) B T X (k + 1) cs' := by
  have hcl := c.toNat_lt
  have hTw := h.row.lt
  have hXw := h.texts.lt
  have hsz := hO.size
  have r3 : Whole v3 T 106 cs := hO.whole h.row (fun e => hXT e.symm)
  have r4 := r3.set 256 (.slice (some ⟨X, 0, none⟩) (k + 1) 3)
  have low : ∀ {g t cs}, g < v3.heap.size → Whole (v3.setCell ⟨T, 256, none⟩ (.slice (some ⟨X, 0, none⟩) (k + 1) 3)) g t cs → Whole v5 g t cs := fun hg hw => (hb.block _ hg).trans hw
  have r5 := low (by omega) r4
  have r6 := r5.set c.toNat (.slice (some ⟨v3.heap.size, 0, none⟩) 2 cap)
  have hTB : Below B w (v5.setCell ⟨T, c.toNat, none⟩ (.slice (some ⟨v3.heap.size, 0, none⟩) 2 cap)) := by
    have h1 : Below B w v3 := hO.below (by omega) (by rintro b rfl; exact hBX)
    have h2 := h1.setCell (p := ⟨T, 256, none⟩) hBT (.slice (some ⟨X, 0, none⟩) (k + 1) 3)
    exact (h2.trans (hb.mono (by omega))).setCell (p := ⟨T, c.toNat, none⟩) hBT _
  have far : ∀ b i, b ≠ T → b < v3.heap.size → (v5.setCell ⟨T, c.toNat, none⟩ (.slice (some ⟨v3.heap.size, 0, none⟩) 2 cap)).cell? ⟨b, i, none⟩ = v3.cell? ⟨b, i, none⟩ := fun b i hbT hb3 => by
    have e1 : (v5.setCell ⟨T, c.toNat, none⟩ (.slice (some ⟨v3.heap.size, 0, none⟩) 2 cap)).heap[b]? = v3.heap[b]? := by
      rw [Below.heap_setCell v5 ⟨T, c.toNat, none⟩ _ b hbT, hb.block b hb3, Below.heap_setCell v3 ⟨T, 256, none⟩ _ b hbT]
    simp only [World.cell?, e1]
  refine ⟨hTB, _, ?_, r6, ?_, ?_, fun c' hc' hns => ?_, fun c' q' hc' hs hq' => ?_⟩
  · rw [Array.size_setIfInBounds, Array.size_setIfInBounds]; exact h.size
  · rw [Array.getElem?_setIfInBounds_ne (by omega), Array.getElem?_setIfInBounds_self_of_lt (by rw [h.size]; omega)]
  · exact (low (by omega) (hx.far (p := ⟨T, 256, none⟩) hXT _)).far (p := ⟨T, c.toNat, none⟩) hXT _
  · rw [Lex.seen_step hk, ← hc] at hns
    rw [Array.getElem?_setIfInBounds_ne (fun e => hns (Or.inr e.symm)), Array.getElem?_setIfInBounds_ne (by omega)]
    exact h.no c' hc' fun hh => hns (Or.inl hh)
  · by_cases hcc : c' = c.toNat
    · subst hcc
      rw [hq] at hq'
      injection hq' with _ hq'
      injection hq' with hq' _
      subst hq'
      have far2 : ∀ i, (v5.setCell ⟨T, c.toNat, none⟩ (.slice (some ⟨v3.heap.size, 0, none⟩) 2 cap)).cell? ⟨v3.heap.size, i, none⟩ = v5.cell? ⟨v3.heap.size, i, none⟩ := fun i => by
        have e1 := Below.heap_setCell v5 ⟨T, c.toNat, none⟩ (.slice (some ⟨v3.heap.size, 0, none⟩) 2 cap) v3.heap.size (by show v3.heap.size ≠ T; omega)
        simp only [World.cell?, e1]
      refine ⟨v3.heap.size, cap, ?_, by omega, by omega, by omega, ?_, (far2 0).trans c0, (far2 1).trans c1⟩
      · rw [Array.getElem?_setIfInBounds_self_of_lt (by rw [Array.size_setIfInBounds, h.size]; omega)]
      · rw [World.size_setCell]; exact hlt
    · have hs' : Lex.seen k c' := by
        rw [Lex.seen_step hk, ← hc] at hs
        exact hs.resolve_right hcc
      obtain ⟨b, cp, h1, h2, h3, h4, h5, h6, h7⟩ := h.yes c' q' hc' hs' hq'
      have e3 : ∀ i, v3.cell? ⟨b, i, none⟩ = w.cell? ⟨b, i, none⟩ := fun i => by
        have e1 := hO.block b h5 h4
        simp only [World.cell?, e1]
      refine ⟨b, cp, ?_, h2, h3, h4, ?_, (far b 0 h3 (by omega)).trans ((e3 0).trans h6), (far b 1 h3 (by omega)).trans ((e3 1).trans h7)⟩
      · rw [Array.getElem?_setIfInBounds_ne (fun e => hcc e.symm), Array.getElem?_setIfInBounds_ne (by omega)]; exact h1
      · rw [World.size_setCell]; omega

set_option maxRecDepth 100000 in
set_option maxHeartbeats 4000000 in
theorem build_any (R A cap : Nat) (W : World) (hr : W.cell? ⟨R, 4, none⟩ = some (.slice (some ⟨A, 0, none⟩) 6 cap)) (hA : Six W A) :
    Calls Try.prog 48 #[.pointer (some ⟨R, 0, none⟩)] W fun e w' => ∃ T cs X, e = .returned (.iface 107 (.pointer (some ⟨T, 0, none⟩))) ∧ Tab w' T cs X ∧ Below W.heap.size W w' ∧ W.heap.size ≤ T ∧ W.heap.size ≤ X ∧ ∀ c q, c < 256 → Lex.repB c = [92, q] → ∀ b cap, cs[c]? = some (.slice (some ⟨b, 0, none⟩) 2 cap) → W.heap.size ≤ b := by
  have HA := Lib.hid hA
  clear hA
  have hmk : ∀ w, (Instr.makeSlice 62 (.int .i64 0) (.int .i64 3)).run Try.prog w = .ok (.slice (some ⟨w.heap.size, 0, none⟩) 0 3) (w.alloc (.cells #[.string ⟨#[]⟩, .string ⟨#[]⟩, .string ⟨#[]⟩] 9)) := fun _ => by kernel_rfl
  go_enter Try.func48, Try.ntmps48
  go_wp2_with fail
  go_loopw [5, 4] (fun i c wr => ∃ k : Nat, k ≤ 3 ∧ wr = W ∧ i = .int .i64 ((2 * k : Nat) : Int) ∧ c = .bool (decide (k = 0))) (fun i _ _ => 6 - (intOf i).toNat)
  case atStart => exact ⟨0, Nat.zero_le _, rfl, by go_num, rfl⟩
  case round =>
    obtain ⟨k, hk, hw, rfl, rfl⟩ := hrel
    replace hw := hw.symm
    subst hw
    obtain ⟨K, HK⟩ : ∃ K, Hid (K = 2 * k) := ⟨_, Lib.hid rfl⟩
    rw [← HK.out]
    by_cases hk3 : k < 3
    · have hd : decide ((K : Int) < 6) = true := decide_eq_true (by have := HK.out; omega)
      have hb0 : (0 : Int) ≤ K := by omega
      have hb1 : (K : Int) < 6 := by have := HK.out; omega
      obtain ⟨o, Ho⟩ : ∃ x : ByteArray, Hid (x = ⟨#[Lex.old k]⟩) := ⟨_, Lib.hid rfl⟩
      obtain ⟨n, Hn⟩ : ∃ x : ByteArray, Hid (x = ⟨#[92, Lex.new k]⟩) := ⟨_, Lib.hid rfl⟩
      have ho1 : o.size = 1 := by rw [Ho.out]; rfl
      have hn1 : n.size = 2 := by rw [Hn.out]; rfl
      have ko : W.cell? ⟨A, K, none⟩ = some (.string o) := by rw [HK.out, Ho.out]; exact HA.out.2 _ _ (Lex.six_old hk3)
      have kn : W.cell? ⟨A, K + 1, none⟩ = some (.string n) := by rw [HK.out, Hn.out]; exact HA.out.2 _ _ (Lex.six_new hk3)
      have hb2 : (K : Int) + 1 < 6 := by have := HK.out; omega
      go_wp2_with fail
      go_round
      case rel => refine ⟨k + 1, by omega, trivial, by have := HK.out; go_num, ?_⟩; rw [decide_eq_false]; omega
      case measure => simp [intOf]; omega
    · have hk33 : k = 3 := by omega
      have hK6 : K = 6 := by have := HK.out; omega
      have hd : decide ((K : Int) < 6) = false := decide_eq_false (by omega)
      have hd0 : decide (k = 0) = false := decide_eq_false (by omega)
      rw [hd0]
      clear hd0
      go_wp2_with fail
      obtain ⟨X, HX⟩ : ∃ x, Hid (x = W.heap.size) := ⟨_, Lib.hid rfl⟩
      obtain ⟨T, HT⟩ : ∃ x, Hid (x = W.heap.size + 1) := ⟨_, Lib.hid rfl⟩
      rw [← HT.out, ← HX.out]
      obtain ⟨v0, Hv0⟩ : ∃ x, Hid (x = (W.alloc (.cells #[.string ⟨#[]⟩, .string ⟨#[]⟩, .string ⟨#[]⟩] 9)).alloc (.cells Try.zeroCells106 106)) := ⟨_, Lib.hid rfl⟩
      have HV : Hid (Whole v0 T 106 Try.zeroCells106 ∧ Whole v0 X 9 (Lex.xsK 0).toArray ∧ Below W.heap.size W v0) := Lib.hid (by
        rw [Hv0.out, HT.out, HX.out]
        refine ⟨?_, (Whole.new W _ _).alloc _, ((Below.refl _ _).alloc (Nat.le_refl _) _).alloc (by rw [size_alloc]; omega) _⟩
        have := Whole.new (W.alloc (.cells #[.string ⟨#[]⟩, .string ⟨#[]⟩, .string ⟨#[]⟩] 9)) 106 Try.zeroCells106
        rwa [size_alloc] at this)
      rw [← Hv0.out]
      have hXT : X ≠ T := by rw [HT.out, HX.out]; omega
      have hWX : W.heap.size ≤ X := by rw [HX.out]; omega
      have hWT : W.heap.size ≤ T := by rw [HT.out]; omega
      clear Hv0 HT HX
      have hsc := table_set (.slice (some ⟨X, 0, none⟩) 0 3) rfl HV.out.1
      obtain ⟨v1, Hv1⟩ : ∃ x, Hid (x = v0.setRow T (Try.zeroCells106.toList.set 256 (.slice (some ⟨X, 0, none⟩) 0 3)).toArray) := ⟨_, Lib.hid rfl⟩
      rw [← Hv1.out] at hsc
      have HR1 : Hid (Below W.heap.size W v1 ∧ ∃ cs, TabK v1 W.heap.size T X 0 cs) := Lib.hid (by
        rw [Hv1.out]
        refine ⟨below_row HV.out.2.2 hWT _, _, table_zero (set_row HV.out.1 _) ((setRow_other _ _ _ _ hXT).trans HV.out.2.1)⟩)
      clear HV Hv1
      rw [hsc]
      clear hsc
      go_wp2_with fail
      go_loopw [12] (fun i wr => ∃ k : Nat, k ≤ 3 ∧ i = .int .i64 (4 - 2 * (k : Int)) ∧ Hid (Below W.heap.size W wr ∧ ∃ cs, TabK wr W.heap.size T X k cs)) (fun i _ => (intOf i + 2).toNat)
      case atStart => exact ⟨0, Nat.zero_le _, by go_num, HR1⟩
      case round =>
        clear hk3 hK6 hd HR1
        obtain ⟨k, hk, rfl, HR⟩ := hrel
        by_cases hk3 : k < 3
        · obtain ⟨cs, hT⟩ := HR.out.2
          obtain ⟨I, HI⟩ : ∃ I, Hid (I = 2 * (2 - k)) := ⟨_, Lib.hid rfl⟩
          have hI : 4 - 2 * (k : Int) = (I : Int) := by have := HI.out; omega
          have hb0 : (0 : Int) ≤ I := by omega
          have hb1 : (I : Int) < 6 := by omega
          have hb2 : (I : Int) + 1 < 6 := by have := HI.out; omega
          rw [hI]
          have hA := Lib.hid (HA.out.below HR.out.1)
          obtain ⟨c, Hc⟩ : ∃ c, Hid (c = Lex.old (2 - k)) := ⟨_, Lib.hid rfl⟩
          obtain ⟨q, Hq⟩ : ∃ q, Hid (q = Lex.new (2 - k)) := ⟨_, Lib.hid rfl⟩
          have hrep : Lex.repB c.toNat = [92, q] := by rw [Hc.out, Hq.out]; exact Lex.old_rep (by omega)
          obtain ⟨o, Ho⟩ : ∃ x : ByteArray, Hid (x = ⟨#[c]⟩) := ⟨_, Lib.hid rfl⟩
          obtain ⟨n, Hn⟩ : ∃ x : ByteArray, Hid (x = ⟨#[92, q]⟩) := ⟨_, Lib.hid rfl⟩
          have ho1 : o.size = 1 := by rw [Ho.out]; rfl
          have ho0 : o[0]'(by omega) = c := by
            have := Ho.out
            subst this; rfl
          have ko : wr.cell? ⟨A, I, none⟩ = some (.string o) := by rw [HI.out, Ho.out, Hc.out]; exact hA.out.2 _ _ (Lex.six_old (by omega))
          have kn : wr.cell? ⟨A, I + 1, none⟩ = some (.string n) := by rw [HI.out, Hn.out, Hq.out]; exact hA.out.2 _ _ (Lex.six_new (by omega))
          have hc256 : (c.toNat : Int) < 256 := by have := c.toNat_lt; omega
          have hc0 : (0 : Int) ≤ c.toNat := by omega
          have kt : wr.cell? ⟨T, c.toNat, none⟩ = some (.slice none 0 0) := (hT.row.cell _).trans (hT.no _ c.toNat_lt (by rw [Hc.out]; exact Lex.not_seen hk3))
          have kl : wr.cell? ⟨T, 256, none⟩ = some (.slice (some ⟨X, 0, none⟩) k 3) := (hT.row.cell _).trans hT.list
          obtain ⟨cp, bw, hbs, HBW⟩ := conv_two n 92 q Hn.out
          replace HBW := Lib.hid HBW
          have hnn : ∀ w, (binOp .eql 86 (.slice none 0 0) (.slice none 0 0)).run Try.prog w = .ok (.bool true) w := fun _ => rfl
          have hcv : (convert 86 9 (.slice (some ⟨wr.heap.size, 0, none⟩) 1 1)).run Try.prog (wr.alloc (.cells #[.int .u8 c.toNat] 5)) = .ok (.string o) (wr.alloc (.cells #[.int .u8 c.toNat] 5)) := by
            rw [Ho.out]
            refine run_convert_bytes_back (wr.alloc (.cells #[.int .u8 c.toNat] 5)) 86 9 5 ⟨wr.heap.size, 0, none⟩ 1 [c] Try.underlying86 Try.underlying5 Try.underlying9 fun j hj => ?_
            have hj0 : j = 0 := by simp at hj; exact hj
            subst hj0
            exact cell_new wr _ _ _ 0
          obtain ⟨w2, Hw2⟩ : ∃ x, Hid (x = (wr.alloc (.cells #[.int .u8 c.toNat] 5)).alloc (.cells #[.string o] 9)) := ⟨_, Lib.hid rfl⟩
          have HW2 : Hid (Only (fun x => x = X) wr w2 ∧ Whole w2 X 9 (Lex.xsK k).toArray ∧ w2.heap.size = wr.heap.size + 2 ∧ w2.cell? ⟨wr.heap.size + 1, 0, none⟩ = some (.string o)) := Lib.hid (by
            rw [Hw2.out]
            refine ⟨((Only.refl _ _).alloc _).alloc _, (hT.texts.alloc _).alloc _, by rw [size_alloc, size_alloc], ?_⟩
            have := cell_new (wr.alloc (.cells #[.int .u8 c.toNat] 5)) #[.string o] 9 (0, 0) 0
            rwa [size_alloc] at this)
          obtain ⟨v3, happ, HV3⟩ : ∃ v3, (Builtin.append_ #[62, 62] 62 #[.slice (some ⟨X, 0, none⟩) k 3, .slice (some ⟨wr.heap.size + 1, 0, none⟩) 1 1]).run Try.prog w2 = .ok (.slice (some ⟨X, 0, none⟩) (k + 1) 3) v3 ∧
              Hid (Only (fun x => x = X) wr v3 ∧ Whole v3 X 9 (Lex.xsK (k + 1)).toArray ∧ v3.heap.size = wr.heap.size + 2) := by
            obtain ⟨i1, hi1⟩ : ∃ i, (Try.prog.info? 9) = some i := ⟨_, rfl⟩
            have hy1 : i1.size = 1 := by
              have : (Try.prog.info? 9).map (·.size) = some 1 := by kernel_rfl
              rw [hi1] at this; exact Option.some.inj this
            have hrun := run_append_room_cells (P := Try.prog) (w := w2) 62 62 9 i1 Try.underlying62 hi1 X 0 k 3 ⟨wr.heap.size + 1, 0, none⟩ 1 1 [.string o] (by rw [hy1]; rfl) (fun j u hu => by
                match j, hu with
                | 0, hu => exact HW2.out.2.2.2.trans hu) (by simp [Value.oneCell']) (by omega) (fun j hj => by
                have hj0 : j = 0 := by simp at hj; exact hj
                subst hj0
                rw [hy1, HW2.out.2.1.cell, List.getElem?_toArray, List.getElem?_eq_getElem (by rw [Lex.xsK_len]; omega)]; rfl) (fun j hj => HW2.out.2.1.frozen _)
            refine ⟨_, hrun, Lib.hid ⟨?_, ?_, ?_⟩⟩
            · rw [hy1]; exact HW2.out.1.setCell (p := ⟨X, 0 + k * 1, none⟩) (Or.inl rfl) _
            · have h1 := HW2.out.2.1.set (0 + k * 1) (.string o)
              rw [List.setIfInBounds_toArray] at h1
              rw [hy1, Lex.xsK_step hk3, ← Hc.out, ← Ho.out]
              have e : 0 + k * 1 = k := by omega
              rw [e] at h1 ⊢
              exact h1
            · rw [hy1]; show (w2.setCell _ _).heap.size = _; rw [World.size_setCell]; exact HW2.out.2.2.1
          have k3 : v3.cell? ⟨T, 256, none⟩ = some (.slice (some ⟨X, 0, none⟩) k 3) := by
            have := HV3.out.1.whole hT.row (fun e => hXT e.symm)
            exact (this.cell _).trans hT.list
          have f3 : v3.frozen? ⟨T, 256, none⟩ = false := (HV3.out.1.whole hT.row (fun e => hXT e.symm)).frozen _
          have HTK := Lib.hid hT
          rw [Hw2.out] at happ
          obtain ⟨v5, Hv5⟩ : ∃ x, Hid (x = bw (v3.setCell ⟨T, 256, none⟩ (.slice (some ⟨X, 0, none⟩) (k + 1) 3))) := ⟨_, Lib.hid rfl⟩
          obtain ⟨cap5, Hcap⟩ : ∃ x, Hid (x = cp (v3.setCell ⟨T, 256, none⟩ (.slice (some ⟨X, 0, none⟩) (k + 1) 3))) := ⟨_, Lib.hid rfl⟩
          have hb5 := hbs (v3.setCell ⟨T, 256, none⟩ (.slice (some ⟨X, 0, none⟩) (k + 1) 3))
          have hB5 := HBW.out (v3.setCell ⟨T, 256, none⟩ (.slice (some ⟨X, 0, none⟩) (k + 1) 3))
          rw [← Hv5.out] at hb5 hB5
          rw [← Hcap.out] at hb5
          rw [World.size_setCell] at hb5 hB5
          have HB5 := Lib.hid hB5
          have HST := Lib.hid (tabK_step (cap := cap5) hk3 Hc.out hT hXT hWX hWT HV3.out.1 HV3.out.2.1 hrep hB5.1 (by rw [hB5.2.1]; omega) hB5.2.2.1 hB5.2.2.2)
          have k5 : ∃ y, v5.cell? ⟨T, c.toNat, none⟩ = some y ∧ v5.frozen? ⟨T, c.toNat, none⟩ = false := by
            have h1 := HV3.out.1.whole hT.row (fun e => hXT e.symm)
            have h2 := h1.set 256 (.slice (some ⟨X, 0, none⟩) (k + 1) 3)
            have h3 : Whole v5 T _ _ := (hB5.1.block T h1.lt).trans h2
            have hcl := c.toNat_lt
            refine ⟨_, (h3.cell _).trans (Array.getElem?_eq_getElem (by rw [Array.size_setIfInBounds, hT.size]; omega)), h3.frozen _⟩
          obtain ⟨y5, k5, f5⟩ := k5
          clear hT hbs hB5 hrep
          have HAP := Lib.hid happ
          clear happ
          go_wp2_with (at_builtin; refine wpList_append_run rfl _ _ _ _ rfl _ _ _ rfl rfl HAP.out ?_)
          refine ⟨⟨k + 1, by omega, ?_, Lib.hid ?_⟩, ?_⟩
          · have := HI.out; go_num
          · exact ⟨HR.out.1.trans HST.out.1, HST.out.2⟩
          · simp [intOf]; have := HI.out; omega
        · have hk33 : k = 3 := by omega
          subst hk33
          obtain ⟨cs, hT⟩ := HR.out.2
          have hm2 : 4 - 2 * ((3 : Nat) : Int) = -2 := rfl
          rw [hm2]
          go_wp2_with fail
          go_ret
          refine ⟨T, cs, X, rfl, hT.tab, HR.out.1, hWT, hWX, fun c q hc hq b cap hb => ?_⟩
          obtain ⟨b', cap', h1, h2, _⟩ := hT.yes c q hc ((Lex.seen_three c).2 (by rw [hq]; simp)) hq
          rw [hb] at h1
          injection h1 with h1
          injection h1 with h1
          injection h1 with h1
          injection h1 with h1
          rw [h1]; exact h2

end Go.Proofs.Ytocbebkcpmodnaa
