/- strings.byteStringReplacer.Replace over the table that Quote builds. -/
import Derived.Test.YtfkejnnbfneieaaGreatDoorLexTok
import Derived.Test.YtfkejnnbfneieaaGreatDoorShelf
import Derived.Laws.CopyOwn
import Derived.Laws.IdiomStrings
import Derived.Deep.RegionLaw
import Derived.Test.YtfkejnnbfneieaaGreatDoorLexLex
import Derived.ArgAppend
import Derived.Laws.IdiomCopy
import Derived.BigQuiet
import Derived.Laws.OwnMore
import Derived.Laws.NewBlocks
import Derived.Tactics2
import Derived.Defers
import Derived.Laws.Pointers
import Derived.Laws.LoneSync
import Derived.RegionTactic
import Derived.RegionCalls
import Derived.ChangeAlike
namespace Go.Proofs.YtfkejnnbfneieaaGreatDoor
open Go.RowKit

namespace Lex
/-- What a byte is replaced by, where it is. -/
def repB (c : Nat) : List UInt8 := if c = 92 then [92, 92] else if c = 34 then [92, 34] else if c = 10 then [92, 110] else []
theorem encC_rep (c : UInt8) : encC c = if repB c.toNat = [] then [c] else repB c.toNat := by
  unfold encC repB
  by_cases h1 : c.toNat = 92
  · simp [h1]
  · by_cases h2 : c.toNat = 34
    · simp [h2]
    · by_cases h3 : c.toNat = 10
      · simp [h3]
      · simp [h1, h2, h3]
theorem rep_two (c : Nat) : repB c = [] ∨ ∃ q, repB c = [92, q] := by
  unfold repB
  split
  · exact Or.inr ⟨_, rfl⟩
  · split
    · exact Or.inr ⟨_, rfl⟩
    · split
      · exact Or.inr ⟨_, rfl⟩
      · exact Or.inl rfl
theorem enc_snoc (t : List UInt8) (c : UInt8) : enc (t ++ [c]) = enc t ++ encC c := by unfold enc; simp
theorem enc_nil : enc [] = [] := rfl
theorem encC_len (c : UInt8) : 1 ≤ (encC c).length ∧ (encC c).length ≤ 2 := by
  unfold encC
  split
  · simp
  · split
    · simp
    · split <;> simp
theorem enc_len (t : List UInt8) : t.length ≤ (enc t).length ∧ (enc t).length ≤ 2 * t.length := by
  induction t with
  | nil => simp [enc]
  | cons c t ih => rw [enc_cons, List.length_append, List.length_cons]; have := encC_len c; omega
theorem enc_take {S : ByteArray} {k : Nat} (h : k < S.size) : enc (S.data.toList.take (k + 1)) = enc (S.data.toList.take k) ++ encC S[k] := by
  rw [List.take_add_one, List.getElem?_eq_getElem (show k < S.data.toList.length from h)]
  show enc (_ ++ [S[k]]) = _
  rw [enc_snoc]
theorem enc_count (t : List UInt8) : (enc t).length = t.length + Lib.countByte t 10 + Lib.countByte t 34 + Lib.countByte t 92 := by
  induction t with
  | nil => rfl
  | cons c t ih =>
    rw [enc_cons, List.length_append, ih, List.length_cons]
    have hlen : ∀ n : UInt8, Lib.countByte (c :: t) n = Lib.countByte t n + if c == n then 1 else 0 := fun n => List.count_cons
    rw [hlen, hlen, hlen]
    have hne : ∀ n : UInt8, c.toNat ≠ n.toNat → (c == n) = false := fun n h => by
      rw [beq_eq_false_iff_ne]; intro e; exact h (congrArg UInt8.toNat e)
    by_cases h1 : c.toNat = 92
    · have hc : c = 92 := UInt8.toNat_inj.1 h1
      subst hc
      have e1 : (encC 92).length = 2 := rfl
      have e2 : ((92 : UInt8) == 10) = false := rfl
      have e3 : ((92 : UInt8) == 34) = false := rfl
      have e4 : ((92 : UInt8) == 92) = true := rfl
      rw [e1, e2, e3, e4]; simp only [Bool.false_eq_true, if_false, if_true]; omega
    · by_cases h2 : c.toNat = 34
      · have hc : c = 34 := UInt8.toNat_inj.1 h2
        subst hc
        have e1 : (encC 34).length = 2 := rfl
        have e2 : ((34 : UInt8) == 10) = false := rfl
        have e3 : ((34 : UInt8) == 34) = true := rfl
        have e4 : ((34 : UInt8) == 92) = false := rfl
        rw [e1, e2, e3, e4]; simp only [Bool.false_eq_true, if_false, if_true]; omega
      · by_cases h3 : c.toNat = 10
        · have hc : c = 10 := UInt8.toNat_inj.1 h3
          subst hc
          have e1 : (encC 10).length = 2 := rfl
          have e2 : ((10 : UInt8) == 10) = true := rfl
          have e3 : ((10 : UInt8) == 34) = false := rfl
          have e4 : ((10 : UInt8) == 92) = false := rfl
          rw [e1, e2, e3, e4]; simp only [Bool.false_eq_true, if_false, if_true]; omega
        · have e1 : (encC c).length = 1 := by unfold encC; rw [if_neg h1, if_neg h2, if_neg h3]; rfl
          rw [e1, hne 10 h3, hne 34 h2, hne 92 h1]; simp only [Bool.false_eq_true, if_false]; omega
theorem enc_same (t : List UInt8) (h : (enc t).length = t.length) : enc t = t := by
  induction t with
  | nil => rfl
  | cons c t ih =>
    rw [enc_cons, List.length_append, List.length_cons] at h
    have h1 := encC_len c
    have h2 := enc_len t
    have h3 : (encC c).length = 1 := by omega
    rw [enc_cons, ih (by omega)]
    have : encC c = [c] := by
      unfold encC at h3 ⊢
      split
      · rename_i h; rw [if_pos h] at h3; simp at h3
      · rename_i h; rw [if_neg h] at h3
        split
        · rename_i g; rw [if_pos g] at h3; simp at h3
        · rename_i g; rw [if_neg g] at h3
          split
          · rename_i f; rw [if_pos f] at h3; simp at h3
          · rfl
    rw [this]; rfl
end Lex

/-- The table in memory. -/
structure RTab (W : World) (T : Nat) (cs : Array Value) (X : Nat) : Prop where
  size : cs.size = 257
  row : Whole W T 203 cs
  list : cs[256]? = some (.slice (some ⟨X, 0, none⟩) 3 3)
  texts : Whole W X 9 #[.string ⟨#[10]⟩, .string ⟨#[34]⟩, .string ⟨#[92]⟩]
  no : ∀ c, c < 256 → Lex.repB c = [] → cs[c]? = some (.slice none 0 0)
  yes : ∀ c q, c < 256 → Lex.repB c = [92, q] → ∃ b cap, cs[c]? = some (.slice (some ⟨b, 0, none⟩) 2 cap) ∧ b < W.heap.size ∧ W.cell? ⟨b, 0, none⟩ = some (.int .u8 92) ∧ W.cell? ⟨b, 1, none⟩ = some (.int .u8 q.toNat)
theorem cell_below {W w : World} (h : Below W.heap.size W w) {b : Nat} (hb : b < W.heap.size) (i : Nat) : w.cell? ⟨b, i, none⟩ = W.cell? ⟨b, i, none⟩ := by
  simp only [World.cell?]; rw [h.block b hb]
theorem RTab.below {W w : World} {T X : Nat} {cs : Array Value} (h : RTab W T cs X) (hb : Below W.heap.size W w) : RTab w T cs X :=
  ⟨h.size, (hb.block _ h.row.lt).trans h.row, h.list, (hb.block _ h.texts.lt).trans h.texts, h.no, fun c q hc hq => by
    obtain ⟨b, cap, h1, h2, h3, h4⟩ := h.yes c q hc hq
    exact ⟨b, cap, h1, Nat.lt_of_lt_of_le h2 hb.size, (cell_below hb h2 0).trans h3, (cell_below hb h2 1).trans h4⟩⟩

end Go.Proofs.YtfkejnnbfneieaaGreatDoor

/- strings.Replacer.build for the six strings that Quote gives it. -/
namespace Go.Proofs.YtfkejnnbfneieaaGreatDoor
open Go.RowKit

namespace Lex
/-- The six strings. -/
def six : List ByteArray := [⟨#[92]⟩, ⟨#[92, 92]⟩, ⟨#[34]⟩, ⟨#[92, 34]⟩, ⟨#[10]⟩, ⟨#[92, 110]⟩]
def old (j : Nat) : UInt8 := if j = 0 then 92 else if j = 1 then 34 else 10
def new (j : Nat) : UInt8 := if j = 0 then 92 else if j = 1 then 34 else 110
theorem six_old {j : Nat} (h : j < 3) : six[2 * j]? = some ⟨#[old j]⟩ := by
  match j, h with
  | 0, _ => rfl
  | 1, _ => rfl
  | 2, _ => rfl
theorem six_new {j : Nat} (h : j < 3) : six[2 * j + 1]? = some ⟨#[92, new j]⟩ := by
  match j, h with
  | 0, _ => rfl
  | 1, _ => rfl
  | 2, _ => rfl
theorem old_rep {j : Nat} (h : j < 3) : repB (old j).toNat = [92, new j] := by
  match j, h with
  | 0, _ => rfl
  | 1, _ => rfl
  | 2, _ => rfl
/-- The bytes that have been seen in k rounds, from the last pair on. -/
def seen (k : Nat) (c : Nat) : Prop := (1 ≤ k ∧ c = 10) ∨ (2 ≤ k ∧ c = 34) ∨ (3 ≤ k ∧ c = 92)
theorem seen_step {k : Nat} (h : k < 3) (c : Nat) : seen (k + 1) c ↔ seen k c ∨ c = (old (2 - k)).toNat := by
  match k, h with
  | 0, _ => unfold seen; show _ ↔ _ ∨ c = 10; omega
  | 1, _ => unfold seen; show _ ↔ _ ∨ c = 34; omega
  | 2, _ => unfold seen; show _ ↔ _ ∨ c = 92; omega
theorem not_seen {k : Nat} (h : k < 3) : ¬ seen k (old (2 - k)).toNat := by
  match k, h with
  | 0, _ => unfold seen; show ¬ (_ ∨ _); omega
  | 1, _ => unfold seen; show ¬ ((_ ∧ 34 = 10) ∨ (_ ∧ 34 = 34) ∨ _); omega
  | 2, _ => unfold seen; show ¬ ((_ ∧ 92 = 10) ∨ (_ ∧ 92 = 34) ∨ (_ ∧ 92 = 92)); omega
theorem seen_zero (c : Nat) : ¬ seen 0 c := by unfold seen; omega
theorem seen_three (c : Nat) : seen 3 c ↔ repB c ≠ [] := by
  unfold seen repB
  by_cases h1 : c = 92
  · simp [h1]
  · by_cases h2 : c = 34
    · simp [h2]
    · by_cases h3 : c = 10
      · simp [h3]
      · simp [h1, h2, h3]
theorem seen_rep {k c : Nat} (h : seen k c) : ∃ q, repB c = [92, q] := by
  rcases rep_two c with hr | hr
  · exfalso
    have : seen 3 c := by unfold seen at h ⊢; omega
    exact (seen_three c).1 this hr
  · exact hr
/-- The list of bytes to be replaced, after k rounds. -/
def xsK (k : Nat) : List Value := if k = 0 then [.string ⟨#[]⟩, .string ⟨#[]⟩, .string ⟨#[]⟩] else if k = 1 then [.string ⟨#[10]⟩, .string ⟨#[]⟩, .string ⟨#[]⟩] else if k = 2 then [.string ⟨#[10]⟩, .string ⟨#[34]⟩, .string ⟨#[]⟩] else [.string ⟨#[10]⟩, .string ⟨#[34]⟩, .string ⟨#[92]⟩]
theorem xsK_step {k : Nat} (h : k < 3) : xsK (k + 1) = (xsK k).set k (.string ⟨#[old (2 - k)]⟩) := by
  match k, h with
  | 0, _ => rfl
  | 1, _ => rfl
  | 2, _ => rfl
theorem xsK_len (k : Nat) : (xsK k).length = 3 :=
  match k with
  | 0 => rfl
  | 1 => rfl
  | 2 => rfl
  | _ + 3 => rfl
end Lex

theorem wpList_append_run {P : Program} {w w' : World} {ops : Array Oper} {rest : List Oper} {o : Oper} {a : Act} {Q : Exit → Act → World → Prop} (hgd : o.guard = none) (s x : Operand) (sT xT : TypeId)
    (ho : o.op = .call { callee := .builtin .append, args := #[s, x], argTypes := #[sT, xT] }) (u v r : Value) (hs : a.eval s = u) (hx : a.eval x = v) (hrun : (Builtin.append_ #[sT, xT] o.type #[u, v]).run P w = .ok r w')
    (h : wpList P ops Q rest (a.put o.dst r) w') : wpList P ops Q (o :: rest) a w := by
  refine wpList_plain hgd fun K hK => ?_
  unfold Oper.wp
  simp [execOp, ho, resolve, invoke, builtin, hs, hx, hrun, Result.andThen]
  exact hK _ _ h

/-- The six strings in memory. -/
def Six (W : World) (A : Nat) : Prop := A < W.heap.size ∧ ∀ i s, Lex.six[i]? = some s → W.cell? ⟨A, i, none⟩ = some (.string s)
theorem Six.below {W w : World} {A : Nat} (h : Six W A) (hb : Below W.heap.size W w) : Six w A :=
  ⟨Nat.lt_of_lt_of_le h.1 hb.size, fun i s hs => (cell_below hb h.1 i).trans (h.2 i s hs)⟩

/-- The table after k rounds. -/
structure TabK (W : World) (B T X k : Nat) (cs : Array Value) : Prop where
  size : cs.size = 257
  row : Whole W T 203 cs
  list : cs[256]? = some (.slice (some ⟨X, 0, none⟩) k 3)
  texts : Whole W X 9 (Lex.xsK k).toArray
  no : ∀ c, c < 256 → ¬ Lex.seen k c → cs[c]? = some (.slice none 0 0)
  yes : ∀ c q, c < 256 → Lex.seen k c → Lex.repB c = [92, q] → ∃ b cap, cs[c]? = some (.slice (some ⟨b, 0, none⟩) 2 cap) ∧ B ≤ b ∧ b ≠ T ∧ b ≠ X ∧ b < W.heap.size ∧ W.cell? ⟨b, 0, none⟩ = some (.int .u8 92) ∧ W.cell? ⟨b, 1, none⟩ = some (.int .u8 q.toNat)
theorem TabK.tab {W : World} {B T X : Nat} {cs : Array Value} (h : TabK W B T X 3 cs) : RTab W T cs X :=
  ⟨h.size, h.row, h.list, h.texts, fun c hc hr => h.no c hc fun hs => (Lex.seen_three c).1 hs hr, fun c q hc hr => by
    obtain ⟨b, cap, h1, _, _, _, h2, h3, h4⟩ := h.yes c q hc ((Lex.seen_three c).2 (by rw [hr]; simp)) hr
    exact ⟨b, cap, h1, h2, h3, h4⟩⟩

theorem zero_table : Tryz.zeroCells203.toList = List.replicate 257 (.slice none 0 0) := by kernel_rfl
theorem table_set {w : World} {T : Nat} (v : Value) (hv : v.oneCell' = true) (h : Whole w T 203 Tryz.zeroCells203) :
    (storeCells ⟨T, 0, none⟩ (Tryz.zeroCells203.toList.set 256 v)).run Tryz.prog w = .ok () (w.setRow T (Tryz.zeroCells203.toList.set 256 v).toArray) := by
  have hz : Tryz.zeroCells203.size = 257 := by rw [← Array.length_toList, zero_table, List.length_replicate]
  have := run_storeCells_from (P := Tryz.prog) T 203 (Tryz.zeroCells203.toList.set 256 v) 0 _ w h (by rw [List.length_set, Array.length_toList]; omega) (fun u hu => by
    rcases List.mem_or_eq_of_mem_set hu with h1 | h1
    · rw [zero_table] at h1
      rw [List.eq_of_mem_replicate h1]; rfl
    · rw [h1]; exact hv)
  simpa [hz] using this
theorem table_zero {w : World} {B T X : Nat} (h : Whole w T 203 (Tryz.zeroCells203.toList.set 256 (.slice (some ⟨X, 0, none⟩) 0 3)).toArray) (hX : Whole w X 9 (Lex.xsK 0).toArray) :
    TabK w B T X 0 (Tryz.zeroCells203.toList.set 256 (.slice (some ⟨X, 0, none⟩) 0 3)).toArray := by
  refine ⟨?_, h, ?_, hX, fun c hc _ => ?_, fun c q _ hs _ => (Lex.seen_zero c hs).elim⟩
  · rw [List.size_toArray, List.length_set, zero_table, List.length_replicate]
  · rw [List.getElem?_toArray, zero_table, List.getElem?_set_self (by rw [List.length_replicate]; omega)]
  · rw [List.getElem?_toArray, zero_table, List.getElem?_set_ne (by omega), List.getElem?_replicate, if_pos (by omega)]

theorem cell_new (w : World) (cs : Array Value) (e : TypeId) (fr : Nat × Nat) (i : Nat) : (w.alloc (.cells cs e fr)).cell? ⟨w.heap.size, i, none⟩ = cs[i]? := by
  have h := heap_alloc_new w (.cells cs e fr)
  simp only [World.cell?, h]
  rfl
theorem conv_two (n : ByteArray) (p q : UInt8) (hn : n = ⟨#[p, q]⟩) : ∃ (cp : World → Nat) (bw : World → World), (∀ w, (convert 9 54 (.string n)).run Tryz.prog w = .ok (.slice (some ⟨w.heap.size, 0, none⟩) 2 (cp w)) (bw w)) ∧
    ∀ w, Below w.heap.size w (bw w) ∧ (bw w).heap.size = w.heap.size + 1 ∧ (bw w).cell? ⟨w.heap.size, 0, none⟩ = some (.int .u8 p.toNat) ∧ (bw w).cell? ⟨w.heap.size, 1, none⟩ = some (.int .u8 q.toNat) := by
  subst hn
  refine ⟨_, _, fun w => run_bytes_of_string w 9 54 5 _ Tryz.underlying9 Tryz.underlying54 Tryz.underlying5, fun w => ⟨?_, ?_, ?_, ?_⟩⟩
  · exact ⟨rfl, rfl, rfl, by rw [size_alloc]; show w.heap.size ≤ w.heap.size + 1; omega, fun k hk => Below.heap_alloc w.drew _ k hk⟩
  · rw [size_alloc]; rfl
  · refine (cell_new w.drew _ _ _ 0).trans ?_
    exact bytesRow_at _ _ 0 (by show 0 < 2; omega)
  · refine (cell_new w.drew _ _ _ 1).trans ?_
    exact bytesRow_at _ _ 1 (by show 1 < 2; omega)

theorem tabK_step {w v3 v5 : World} {B T X k cap : Nat} {cs : Array Value} {c q : UInt8} (hk : k < 3) (hc : c = Lex.old (2 - k)) (h : TabK w B T X k cs) (hXT : X ≠ T) (hBX : B ≤ X) (hBT : B ≤ T) (hO : Only (fun x => x = X) w v3) (hx : Whole v3 X 9 (Lex.xsK (k + 1)).toArray) (hq : Lex.repB c.toNat = [92, q])
    (hb : Below v3.heap.size (v3.setCell ⟨T, 256, none⟩ (.slice (some ⟨X, 0, none⟩) (k + 1) 3)) v5) (hlt : v3.heap.size < v5.heap.size) (c0 : v5.cell? ⟨v3.heap.size, 0, none⟩ = some (.int .u8 92)) (c1 : v5.cell? ⟨v3.heap.size, 1, none⟩ = some (.int .u8 q.toNat)) :
    Below B w (v5.setCell ⟨T, c.toNat, none⟩ (.slice (some ⟨v3.heap.size, 0, none⟩) 2 cap)) ∧ ∃ cs', TabK (v5.setCell ⟨T, c.toNat, none⟩ (.slice (some ⟨v3.heap.size, 0, none⟩) 2 cap)) B T X (k + 1) cs' := by
  have hcl := c.toNat_lt
  have hTw := h.row.lt
  have hXw := h.texts.lt
  have hsz := hO.size
  have r3 : Whole v3 T 203 cs := hO.whole h.row (fun e => hXT e.symm)
  have r4 := r3.set 256 (.slice (some ⟨X, 0, none⟩) (k + 1) 3)
  have low : ∀ {g t cs}, g < v3.heap.size → Whole (v3.setCell ⟨T, 256, none⟩ (.slice (some ⟨X, 0, none⟩) (k + 1) 3)) g t cs → Whole v5 g t cs := fun hg hw => (hb.block _ hg).trans hw
  have r5 := low (by omega) r4
  have r6 := r5.set c.toNat (.slice (some ⟨v3.heap.size, 0, none⟩) 2 cap)
  have hTB : Below B w (v5.setCell ⟨T, c.toNat, none⟩ (.slice (some ⟨v3.heap.size, 0, none⟩) 2 cap)) := by
    have h1 : Below B w v3 := hO.below (by omega) (by rintro b rfl; exact hBX)
    have h2 := h1.setCell (p := ⟨T, 256, none⟩) hBT (.slice (some ⟨X, 0, none⟩) (k + 1) 3)
    exact (h2.trans (hb.mono (by omega))).setCell (p := ⟨T, c.toNat, none⟩) hBT _
  have far : ∀ b i, b ≠ T → b < v3.heap.size → (v5.setCell ⟨T, c.toNat, none⟩ (.slice (some ⟨v3.heap.size, 0, none⟩) 2 cap)).cell? ⟨b, i, none⟩ = v3.cell? ⟨b, i, none⟩ := fun b i hbT hb3 => by
    have e1 : (v5.setCell ⟨T, c.toNat, none⟩ (.slice (some ⟨v3.heap.size, 0, none⟩) 2 cap)).heap[b]? = v3.heap[b]? := by
      rw [Below.heap_setCell v5 ⟨T, c.toNat, none⟩ _ b hbT, hb.block b hb3, Below.heap_setCell v3 ⟨T, 256, none⟩ _ b hbT]
    simp only [World.cell?, e1]
  refine ⟨hTB, _, ?_, r6, ?_, ?_, fun c' hc' hns => ?_, fun c' q' hc' hs hq' => ?_⟩
  · rw [Array.size_setIfInBounds, Array.size_setIfInBounds]; exact h.size
  · rw [Array.getElem?_setIfInBounds_ne (by omega), Array.getElem?_setIfInBounds_self_of_lt (by rw [h.size]; omega)]
  · exact (low (by omega) (hx.far (p := ⟨T, 256, none⟩) hXT _)).far (p := ⟨T, c.toNat, none⟩) hXT _
  · rw [Lex.seen_step hk, ← hc] at hns
    rw [Array.getElem?_setIfInBounds_ne (fun e => hns (Or.inr e.symm)), Array.getElem?_setIfInBounds_ne (by omega)]
    exact h.no c' hc' fun hh => hns (Or.inl hh)
  · by_cases hcc : c' = c.toNat
    · subst hcc
      rw [hq] at hq'
      injection hq' with _ hq'
      injection hq' with hq' _
      subst hq'
      have far2 : ∀ i, (v5.setCell ⟨T, c.toNat, none⟩ (.slice (some ⟨v3.heap.size, 0, none⟩) 2 cap)).cell? ⟨v3.heap.size, i, none⟩ = v5.cell? ⟨v3.heap.size, i, none⟩ := fun i => by
        have e1 := Below.heap_setCell v5 ⟨T, c.toNat, none⟩ (.slice (some ⟨v3.heap.size, 0, none⟩) 2 cap) v3.heap.size (by show v3.heap.size ≠ T; omega)
        simp only [World.cell?, e1]
      refine ⟨v3.heap.size, cap, ?_, by omega, by omega, by omega, ?_, (far2 0).trans c0, (far2 1).trans c1⟩
      · rw [Array.getElem?_setIfInBounds_self_of_lt (by rw [Array.size_setIfInBounds, h.size]; omega)]
      · rw [World.size_setCell]; exact hlt
    · have hs' : Lex.seen k c' := by
        rw [Lex.seen_step hk, ← hc] at hs
        exact hs.resolve_right hcc
      obtain ⟨b, cp, h1, h2, h3, h4, h5, h6, h7⟩ := h.yes c' q' hc' hs' hq'
      have e3 : ∀ i, v3.cell? ⟨b, i, none⟩ = w.cell? ⟨b, i, none⟩ := fun i => by
        have e1 := hO.block b h5 h4
        simp only [World.cell?, e1]
      refine ⟨b, cp, ?_, h2, h3, h4, ?_, (far b 0 h3 (by omega)).trans ((e3 0).trans h6), (far b 1 h3 (by omega)).trans ((e3 1).trans h7)⟩
      · rw [Array.getElem?_setIfInBounds_ne (fun e => hcc e.symm), Array.getElem?_setIfInBounds_ne (by omega)]; exact h1
      · rw [World.size_setCell]; omega

set_option maxRecDepth 100000 in
set_option maxHeartbeats 4000000 in
theorem build_any (R A cap : Nat) (W : World) (hr : W.cell? ⟨R, 4, none⟩ = some (.slice (some ⟨A, 0, none⟩) 6 cap)) (hA : Six W A) :
    Calls Tryz.prog 119 #[.pointer (some ⟨R, 0, none⟩)] W fun e w' => ∃ T cs X, e = .returned (.iface 204 (.pointer (some ⟨T, 0, none⟩))) ∧ RTab w' T cs X ∧ Below W.heap.size W w' ∧ W.heap.size ≤ T ∧ W.heap.size ≤ X ∧ ∀ c q, c < 256 → Lex.repB c = [92, q] → ∀ b cap, cs[c]? = some (.slice (some ⟨b, 0, none⟩) 2 cap) → W.heap.size ≤ b := by
  have HA := Lib.hid hA
  clear hA
  have hmk : ∀ w, (Instr.makeSlice 41 (.int .i64 0) (.int .i64 3)).run Tryz.prog w = .ok (.slice (some ⟨w.heap.size, 0, none⟩) 0 3) (w.alloc (.cells #[.string ⟨#[]⟩, .string ⟨#[]⟩, .string ⟨#[]⟩] 9)) := fun _ => by kernel_rfl
  go_enter Tryz.func119, Tryz.ntmps119
  go_wp2_with fail
  go_loopw [5, 4] (fun i c wr => ∃ k : Nat, k ≤ 3 ∧ wr = W ∧ i = .int .i64 ((2 * k : Nat) : Int) ∧ c = .bool (decide (k = 0))) (fun i _ _ => 6 - (intOf i).toNat)
  case atStart => exact ⟨0, Nat.zero_le _, rfl, by go_num, rfl⟩
  case round =>
    obtain ⟨k, hk, hw, rfl, rfl⟩ := hrel
    replace hw := hw.symm
    subst hw
    obtain ⟨K, HK⟩ : ∃ K, Hid (K = 2 * k) := ⟨_, Lib.hid rfl⟩
    rw [← HK.out]
    by_cases hk3 : k < 3
    · have hd : decide ((K : Int) < 6) = true := decide_eq_true (by have := HK.out; omega)
      have hb0 : (0 : Int) ≤ K := by omega
      have hb1 : (K : Int) < 6 := by have := HK.out; omega
      obtain ⟨o, Ho⟩ : ∃ x : ByteArray, Hid (x = ⟨#[Lex.old k]⟩) := ⟨_, Lib.hid rfl⟩
      obtain ⟨n, Hn⟩ : ∃ x : ByteArray, Hid (x = ⟨#[92, Lex.new k]⟩) := ⟨_, Lib.hid rfl⟩
      have ho1 : o.size = 1 := by rw [Ho.out]; rfl
      have hn1 : n.size = 2 := by rw [Hn.out]; rfl
      have ko : W.cell? ⟨A, K, none⟩ = some (.string o) := by rw [HK.out, Ho.out]; exact HA.out.2 _ _ (Lex.six_old hk3)
      have kn : W.cell? ⟨A, K + 1, none⟩ = some (.string n) := by rw [HK.out, Hn.out]; exact HA.out.2 _ _ (Lex.six_new hk3)
      have hb2 : (K : Int) + 1 < 6 := by have := HK.out; omega
      go_wp2_with fail
      go_round
      case rel => refine ⟨k + 1, by omega, trivial, by have := HK.out; go_num, ?_⟩; rw [decide_eq_false]; omega
      case measure => simp [intOf]; omega
    · have hk33 : k = 3 := by omega
      have hK6 : K = 6 := by have := HK.out; omega
      have hd : decide ((K : Int) < 6) = false := decide_eq_false (by omega)
      have hd0 : decide (k = 0) = false := decide_eq_false (by omega)
      rw [hd0]
      clear hd0
      go_wp2_with fail
      obtain ⟨X, HX⟩ : ∃ x, Hid (x = W.heap.size) := ⟨_, Lib.hid rfl⟩
      obtain ⟨T, HT⟩ : ∃ x, Hid (x = W.heap.size + 1) := ⟨_, Lib.hid rfl⟩
      rw [← HT.out, ← HX.out]
      obtain ⟨v0, Hv0⟩ : ∃ x, Hid (x = (W.alloc (.cells #[.string ⟨#[]⟩, .string ⟨#[]⟩, .string ⟨#[]⟩] 9)).alloc (.cells Tryz.zeroCells203 203)) := ⟨_, Lib.hid rfl⟩
      have HV : Hid (Whole v0 T 203 Tryz.zeroCells203 ∧ Whole v0 X 9 (Lex.xsK 0).toArray ∧ Below W.heap.size W v0) := Lib.hid (by
        rw [Hv0.out, HT.out, HX.out]
        refine ⟨?_, (Whole.new W _ _).alloc _, ((Below.refl _ _).alloc (Nat.le_refl _) _).alloc (by rw [size_alloc]; omega) _⟩
        have := Whole.new (W.alloc (.cells #[.string ⟨#[]⟩, .string ⟨#[]⟩, .string ⟨#[]⟩] 9)) 203 Tryz.zeroCells203
        rwa [size_alloc] at this)
      rw [← Hv0.out]
      have hXT : X ≠ T := by rw [HT.out, HX.out]; omega
      have hWX : W.heap.size ≤ X := by rw [HX.out]; omega
      have hWT : W.heap.size ≤ T := by rw [HT.out]; omega
      clear Hv0 HT HX
      have hsc := table_set (.slice (some ⟨X, 0, none⟩) 0 3) rfl HV.out.1
      obtain ⟨v1, Hv1⟩ : ∃ x, Hid (x = v0.setRow T (Tryz.zeroCells203.toList.set 256 (.slice (some ⟨X, 0, none⟩) 0 3)).toArray) := ⟨_, Lib.hid rfl⟩
      rw [← Hv1.out] at hsc
      have HR1 : Hid (Below W.heap.size W v1 ∧ ∃ cs, TabK v1 W.heap.size T X 0 cs) := Lib.hid (by
        rw [Hv1.out]
        refine ⟨below_row HV.out.2.2 hWT _, _, table_zero (set_row HV.out.1 _) ((setRow_other _ _ _ _ hXT).trans HV.out.2.1)⟩)
      clear HV Hv1
      rw [hsc]
      clear hsc
      go_wp2_with fail
      go_loopw [12] (fun i wr => ∃ k : Nat, k ≤ 3 ∧ i = .int .i64 (4 - 2 * (k : Int)) ∧ Hid (Below W.heap.size W wr ∧ ∃ cs, TabK wr W.heap.size T X k cs)) (fun i _ => (intOf i + 2).toNat)
      case atStart => exact ⟨0, Nat.zero_le _, by go_num, HR1⟩
      case round =>
        clear hk3 hK6 hd HR1
        obtain ⟨k, hk, rfl, HR⟩ := hrel
        by_cases hk3 : k < 3
        · obtain ⟨cs, hT⟩ := HR.out.2
          obtain ⟨I, HI⟩ : ∃ I, Hid (I = 2 * (2 - k)) := ⟨_, Lib.hid rfl⟩
          have hI : 4 - 2 * (k : Int) = (I : Int) := by have := HI.out; omega
          have hb0 : (0 : Int) ≤ I := by omega
          have hb1 : (I : Int) < 6 := by omega
          have hb2 : (I : Int) + 1 < 6 := by have := HI.out; omega
          rw [hI]
          have hA := Lib.hid (HA.out.below HR.out.1)
          obtain ⟨c, Hc⟩ : ∃ c, Hid (c = Lex.old (2 - k)) := ⟨_, Lib.hid rfl⟩
          obtain ⟨q, Hq⟩ : ∃ q, Hid (q = Lex.new (2 - k)) := ⟨_, Lib.hid rfl⟩
          have hrep : Lex.repB c.toNat = [92, q] := by rw [Hc.out, Hq.out]; exact Lex.old_rep (by omega)
          obtain ⟨o, Ho⟩ : ∃ x : ByteArray, Hid (x = ⟨#[c]⟩) := ⟨_, Lib.hid rfl⟩
          obtain ⟨n, Hn⟩ : ∃ x : ByteArray, Hid (x = ⟨#[92, q]⟩) := ⟨_, Lib.hid rfl⟩
          have ho1 : o.size = 1 := by rw [Ho.out]; rfl
          have ho0 : o[0]'(by omega) = c := by
            have := Ho.out
            subst this; rfl
          have ko : wr.cell? ⟨A, I, none⟩ = some (.string o) := by rw [HI.out, Ho.out, Hc.out]; exact hA.out.2 _ _ (Lex.six_old (by omega))
          have kn : wr.cell? ⟨A, I + 1, none⟩ = some (.string n) := by rw [HI.out, Hn.out, Hq.out]; exact hA.out.2 _ _ (Lex.six_new (by omega))
          have hc256 : (c.toNat : Int) < 256 := by have := c.toNat_lt; omega
          have hc0 : (0 : Int) ≤ c.toNat := by omega
          have kt : wr.cell? ⟨T, c.toNat, none⟩ = some (.slice none 0 0) := (hT.row.cell _).trans (hT.no _ c.toNat_lt (by rw [Hc.out]; exact Lex.not_seen hk3))
          have kl : wr.cell? ⟨T, 256, none⟩ = some (.slice (some ⟨X, 0, none⟩) k 3) := (hT.row.cell _).trans hT.list
          obtain ⟨cp, bw, hbs, HBW⟩ := conv_two n 92 q Hn.out
          replace HBW := Lib.hid HBW
          have hnn : ∀ w, (binOp .eql 54 (.slice none 0 0) (.slice none 0 0)).run Tryz.prog w = .ok (.bool true) w := fun _ => rfl
          have hcv : (convert 54 9 (.slice (some ⟨wr.heap.size, 0, none⟩) 1 1)).run Tryz.prog (wr.alloc (.cells #[.int .u8 c.toNat] 5)) = .ok (.string o) (wr.alloc (.cells #[.int .u8 c.toNat] 5)) := by
            rw [Ho.out]
            refine run_convert_bytes_back (wr.alloc (.cells #[.int .u8 c.toNat] 5)) 54 9 5 ⟨wr.heap.size, 0, none⟩ 1 [c] Tryz.underlying54 Tryz.underlying5 Tryz.underlying9 fun j hj => ?_
            have hj0 : j = 0 := by simp at hj; exact hj
            subst hj0
            exact cell_new wr _ _ _ 0
          obtain ⟨w2, Hw2⟩ : ∃ x, Hid (x = (wr.alloc (.cells #[.int .u8 c.toNat] 5)).alloc (.cells #[.string o] 9)) := ⟨_, Lib.hid rfl⟩
          have HW2 : Hid (Only (fun x => x = X) wr w2 ∧ Whole w2 X 9 (Lex.xsK k).toArray ∧ w2.heap.size = wr.heap.size + 2 ∧ w2.cell? ⟨wr.heap.size + 1, 0, none⟩ = some (.string o)) := Lib.hid (by
            rw [Hw2.out]
            refine ⟨((Only.refl _ _).alloc _).alloc _, (hT.texts.alloc _).alloc _, by rw [size_alloc, size_alloc], ?_⟩
            have := cell_new (wr.alloc (.cells #[.int .u8 c.toNat] 5)) #[.string o] 9 (0, 0) 0
            rwa [size_alloc] at this)
          obtain ⟨v3, happ, HV3⟩ : ∃ v3, (Builtin.append_ #[41, 41] 41 #[.slice (some ⟨X, 0, none⟩) k 3, .slice (some ⟨wr.heap.size + 1, 0, none⟩) 1 1]).run Tryz.prog w2 = .ok (.slice (some ⟨X, 0, none⟩) (k + 1) 3) v3 ∧
              Hid (Only (fun x => x = X) wr v3 ∧ Whole v3 X 9 (Lex.xsK (k + 1)).toArray ∧ v3.heap.size = wr.heap.size + 2) := by
            obtain ⟨i1, hi1⟩ : ∃ i, (Tryz.prog.info? 9) = some i := ⟨_, rfl⟩
            have hy1 : i1.size = 1 := by
              have : (Tryz.prog.info? 9).map (·.size) = some 1 := by kernel_rfl
              rw [hi1] at this; exact Option.some.inj this
            have hrun := run_append_room_cells (P := Tryz.prog) (w := w2) 41 41 9 i1 Tryz.underlying41 hi1 X 0 k 3 ⟨wr.heap.size + 1, 0, none⟩ 1 1 [.string o] (by rw [hy1]; rfl) (fun j u hu => by
                match j, hu with
                | 0, hu => exact HW2.out.2.2.2.trans hu) (by simp [Value.oneCell']) (by omega) (fun j hj => by
                have hj0 : j = 0 := by simp at hj; exact hj
                subst hj0
                rw [hy1, HW2.out.2.1.cell, List.getElem?_toArray, List.getElem?_eq_getElem (by rw [Lex.xsK_len]; omega)]; rfl) (fun j hj => HW2.out.2.1.frozen _)
            refine ⟨_, hrun, Lib.hid ⟨?_, ?_, ?_⟩⟩
            · rw [hy1]; exact HW2.out.1.setCell (p := ⟨X, 0 + k * 1, none⟩) (Or.inl rfl) _
            · have h1 := HW2.out.2.1.set (0 + k * 1) (.string o)
              rw [List.setIfInBounds_toArray] at h1
              rw [hy1, Lex.xsK_step hk3, ← Hc.out, ← Ho.out]
              have e : 0 + k * 1 = k := by omega
              rw [e] at h1 ⊢
              exact h1
            · rw [hy1]; show (w2.setCell _ _).heap.size = _; rw [World.size_setCell]; exact HW2.out.2.2.1
          have k3 : v3.cell? ⟨T, 256, none⟩ = some (.slice (some ⟨X, 0, none⟩) k 3) := by
            have := HV3.out.1.whole hT.row (fun e => hXT e.symm)
            exact (this.cell _).trans hT.list
          have f3 : v3.frozen? ⟨T, 256, none⟩ = false := (HV3.out.1.whole hT.row (fun e => hXT e.symm)).frozen _
          have HTK := Lib.hid hT
          rw [Hw2.out] at happ
          obtain ⟨v5, Hv5⟩ : ∃ x, Hid (x = bw (v3.setCell ⟨T, 256, none⟩ (.slice (some ⟨X, 0, none⟩) (k + 1) 3))) := ⟨_, Lib.hid rfl⟩
          obtain ⟨cap5, Hcap⟩ : ∃ x, Hid (x = cp (v3.setCell ⟨T, 256, none⟩ (.slice (some ⟨X, 0, none⟩) (k + 1) 3))) := ⟨_, Lib.hid rfl⟩
          have hb5 := hbs (v3.setCell ⟨T, 256, none⟩ (.slice (some ⟨X, 0, none⟩) (k + 1) 3))
          have hB5 := HBW.out (v3.setCell ⟨T, 256, none⟩ (.slice (some ⟨X, 0, none⟩) (k + 1) 3))
          rw [← Hv5.out] at hb5 hB5
          rw [← Hcap.out] at hb5
          rw [World.size_setCell] at hb5 hB5
          have HB5 := Lib.hid hB5
          have HST := Lib.hid (tabK_step (cap := cap5) hk3 Hc.out hT hXT hWX hWT HV3.out.1 HV3.out.2.1 hrep hB5.1 (by rw [hB5.2.1]; omega) hB5.2.2.1 hB5.2.2.2)
          have k5 : ∃ y, v5.cell? ⟨T, c.toNat, none⟩ = some y ∧ v5.frozen? ⟨T, c.toNat, none⟩ = false := by
            have h1 := HV3.out.1.whole hT.row (fun e => hXT e.symm)
            have h2 := h1.set 256 (.slice (some ⟨X, 0, none⟩) (k + 1) 3)
            have h3 : Whole v5 T _ _ := (hB5.1.block T h1.lt).trans h2
            have hcl := c.toNat_lt
            refine ⟨_, (h3.cell _).trans (Array.getElem?_eq_getElem (by rw [Array.size_setIfInBounds, hT.size]; omega)), h3.frozen _⟩
          obtain ⟨y5, k5, f5⟩ := k5
          clear hT hbs hB5 hrep
          have HAP := Lib.hid happ
          clear happ
          go_wp2_with (at_builtin; refine wpList_append_run rfl _ _ _ _ rfl _ _ _ rfl rfl HAP.out ?_)
          refine ⟨⟨k + 1, by omega, ?_, Lib.hid ?_⟩, ?_⟩
          · have := HI.out; go_num
          · exact ⟨HR.out.1.trans HST.out.1, HST.out.2⟩
          · simp [intOf]; have := HI.out; omega
        · have hk33 : k = 3 := by omega
          subst hk33
          obtain ⟨cs, hT⟩ := HR.out.2
          have hm2 : 4 - 2 * ((3 : Nat) : Int) = -2 := rfl
          rw [hm2]
          go_wp2_with fail
          go_ret
          refine ⟨T, cs, X, rfl, hT.tab, HR.out.1, hWT, hWX, fun c q hc hq b cap hb => ?_⟩
          obtain ⟨b', cap', h1, h2, _⟩ := hT.yes c q hc ((Lex.seen_three c).2 (by rw [hq]; simp)) hq
          rw [hb] at h1
          injection h1 with h1
          injection h1 with h1
          injection h1 with h1
          injection h1 with h1
          rw [h1]; exact h2

end Go.Proofs.YtfkejnnbfneieaaGreatDoor

/- The walk of strings.byteStringReplacer.Replace. -/
namespace Go.Proofs.YtfkejnnbfneieaaGreatDoor
open Go.RowKit

namespace Lex
def cntK (t : List UInt8) : Nat → Nat
  | 0 => 0
  | 1 => Lib.countByte t 10
  | 2 => Lib.countByte t 10 + Lib.countByte t 34
  | _ => Lib.countByte t 10 + Lib.countByte t 34 + Lib.countByte t 92
theorem cntK_le (t : List UInt8) (k : Nat) : cntK t k ≤ t.length := by
  have h := enc_count t
  have h2 := enc_len t
  match k with
  | 0 => exact Nat.zero_le _
  | 1 => show Lib.countByte t 10 ≤ _; omega
  | 2 => show Lib.countByte t 10 + Lib.countByte t 34 ≤ _; omega
  | n + 3 => show Lib.countByte t 10 + Lib.countByte t 34 + Lib.countByte t 92 ≤ _; omega
theorem cntK_step (t : List UInt8) {k : Nat} (h : k < 3) : ∃ c : UInt8, ∃ q, (#[.string ⟨#[10]⟩, .string ⟨#[34]⟩, .string ⟨#[92]⟩] : Array Value)[k]? = some (.string ⟨#[c]⟩) ∧ repB c.toNat = [92, q] ∧ cntK t (k + 1) = cntK t k + Lib.countByte t c := by
  match k, h with
  | 0, _ => exact ⟨10, 110, rfl, rfl, (Nat.zero_add _).symm⟩
  | 1, _ => exact ⟨34, 34, rfl, rfl, rfl⟩
  | 2, _ => exact ⟨92, 92, rfl, rfl, rfl⟩
end Lex
theorem take_set_next {α : Type} (l : List α) {j : Nat} (v : α) (h : j < l.length) : (l.set j v).take (j + 1) = l.take j ++ [v] := by
  rw [List.take_add_one, List.getElem?_set_self h, List.take_set, List.set_eq_of_length_le (by rw [List.length_take]; omega)]
  rfl
theorem take_splice {α : Type} (L : List α) (off : Nat) (cs : List α) (h : off ≤ L.length) : (splice L off cs).take (off + cs.length) = L.take off ++ cs := by
  unfold splice
  rw [← List.append_assoc]
  exact List.take_left' (by rw [List.length_append, List.length_take]; omega)
theorem byteCells_app (a b : List UInt8) : Lib.byteCells (a ++ b) = Lib.byteCells a ++ Lib.byteCells b := by unfold Lib.byteCells; rw [List.map_append]
theorem below_drewN (w : World) (n : Nat) : Below w.heap.size w (w.drewN n) := by
  have e : ∀ n, (w.drewN n).os = w.os ∧ (w.drewN n).tape = w.tape ∧ (w.drewN n).output = w.output ∧ (w.drewN n).heap = w.heap := fun n => by
    induction n with
    | zero => exact ⟨rfl, rfl, rfl, rfl⟩
    | succ n ih => exact ih
  exact ⟨(e n).1, (e n).2.1, (e n).2.2.1, by rw [(e n).2.2.2]; exact Nat.le_refl _, fun k _ => by rw [(e n).2.2.2]⟩

set_option maxRecDepth 100000 in
set_option maxHeartbeats 4000000 in
theorem bsr_any (T X : Nat) (cs : Array Value) (S : ByteArray) (hS : S.size ≤ 100000000) (W : World) (h : RTab W T cs X) :
    Calls Tryz.prog 199 #[.pointer (some ⟨T, 0, none⟩), .string S] W fun e w' => e = .returned (.string ⟨(Lex.enc S.data.toList).toArray⟩) ∧ Below W.heap.size W w' := by
  have H0 := Lib.hid h
  have kl : W.cell? ⟨T, 256, none⟩ = some (.slice (some ⟨X, 0, none⟩) 3 3) := (h.row.cell 256).trans h.list
  have hlt := h.row.lt
  have hz := Lib.hid h.size
  clear h
  have hSl : S.data.toList.length = S.size := rfl
  have HL := Lib.hid (Lex.enc_len S.data.toList)
  obtain ⟨i1, hi1⟩ : ∃ i, (Tryz.prog.info? 5) = some i := ⟨_, rfl⟩
  have hy0 : i1.zero = some (.int .u8 0) := by
    have : (Tryz.prog.info? 5).bind (·.zero) = some (.int .u8 0) := by kernel_rfl
    rw [hi1] at this; exact this
  have hy1 : i1.size = 1 := by
    have : (Tryz.prog.info? 5).map (·.size) = some 1 := by kernel_rfl
    rw [hi1] at this; exact Option.some.inj this
  have hy2 : i1.bytes = 1 := by
    have : (Tryz.prog.info? 5).map (·.bytes) = some 1 := by kernel_rfl
    rw [hi1] at this; exact Option.some.inj this
  go_enter Tryz.func199, Tryz.ntmps199
  by_cases hbig : 24 ≤ S.size
  · have hdb : decide ((24 : Int) ≤ (S.size : Int)) = true := decide_eq_true (by omega)
    go_wp2_with fail
    go_loopw [32, 5, 6] (fun i n c wr => ∃ k : Nat, k ≤ 3 ∧ Hid (Below W.heap.size W wr) ∧ i = .int .i64 k ∧ n = .int .i64 ((S.size + Lex.cntK S.data.toList k : Nat) : Int) ∧ c = .bool (decide (Lex.cntK S.data.toList k ≠ 0))) (fun i _ _ _ => 3 - (intOf i).toNat)
    case atStart => exact ⟨0, Nat.zero_le _, Lib.hid (Below.refl _ _), by go_num, by go_num, rfl⟩
    case round =>
      obtain ⟨k, hk, HBr, rfl, rfl, rfl⟩ := hrel
      have HT := Lib.hid (H0.out.below HBr.out)
      by_cases hk3 : k < 3
      · have hd : decide ((k : Int) < 3) = true := decide_eq_true (by omega)
        have hb0 : (0 : Int) ≤ k := by omega
        have hb1 : (k : Int) < 3 := by omega
        obtain ⟨c, q, hc1, hrep, hstep⟩ := Lex.cntK_step S.data.toList hk3
        obtain ⟨x, Hx⟩ : ∃ x : ByteArray, Hid (x = ⟨#[c]⟩) := ⟨_, Lib.hid rfl⟩
        have hx1 : x.size = 1 := by rw [Hx.out]; rfl
        have hx0 : x[0]'(by omega) = c := by
          have := Hx.out
          subst this; rfl
        have kx : wr.cell? ⟨X, k, none⟩ = some (.string x) := by rw [Hx.out]; exact (HT.out.texts.cell k).trans hc1
        obtain ⟨b, cap, ht, hbl, hb92, hbq⟩ := HT.out.yes c.toNat q c.toNat_lt hrep
        have kt : wr.cell? ⟨T, c.toNat, none⟩ = some (.slice (some ⟨b, 0, none⟩) 2 cap) := (HT.out.row.cell _).trans ht
        obtain ⟨m, Hm⟩ : ∃ m, Hid (m = Lib.countByte S.data.toList c) := ⟨_, Lib.hid rfl⟩
        obtain ⟨n, Hn⟩ : ∃ n, Hid (n = S.size + Lex.cntK S.data.toList k) := ⟨_, Lib.hid rfl⟩
        have hm : m ≤ 100000000 := by
          have h1 := Lex.cntK_le S.data.toList (k + 1)
          rw [hstep, ← Hm.out] at h1; omega
        have hn : n ≤ 200000000 := by
          have h1 := Lex.cntK_le S.data.toList k
          rw [Hn.out]; omega
        have hc256 : (c.toNat : Int) < 256 := by have := c.toNat_lt; omega
        have hc0 : (0 : Int) ≤ c.toNat := by omega
        have HS := Lib.hid hstep
        have HC := Lib.hid (_root_.Go.Proofs.Tryz.strings_Count_one S c wr)
        rw [← Hm.out] at HS HC
        rw [← Hx.out] at HC
        rw [← Hn.out]
        clear hc1 hrep ht hb92 hbq hstep
        by_cases hm0 : m = 0
        · have hd2 : ((m : Int) == 0) = true := by rw [hm0]; rfl
          go_wp2_with fail
          refine HC.out.mono ?_
          rintro e w2 ⟨rfl, hw2⟩
          subst hw2
          go_wp2_with fail
          go_round
          case rel =>
            refine ⟨k + 1, by omega, HBr, by go_num, ?_, ?_⟩
            · rw [HS.out, hm0, Nat.add_zero, Hn.out]
            · rw [HS.out, hm0, Nat.add_zero, decide_not]
          case measure => simp [intOf]; omega
        · have hd2 : ((m : Int) == 0) = false := by
            have : ((m : Int) == 0) = decide ((m : Int) = 0) := rfl
            rw [this, decide_eq_false]; omega
          go_wp2_with fail
          refine HC.out.mono ?_
          rintro e w2 ⟨rfl, hw2⟩
          subst hw2
          go_wp2_with fail
          go_quiet (fail)
          go_wp2_with fail
          go_round
          case rel =>
            refine ⟨k + 1, by omega, Lib.hid (HBr.out.trans ((below_drewN w2 nq).mono HBr.out.size)), by go_num, ?_, ?_⟩
            · rw [HS.out, Hn.out]; go_num
            · rw [HS.out, decide_eq_true]; omega
          case measure => simp [intOf]; omega
      · have hk33 : k = 3 := by omega
        subst hk33
        have hd : decide ((3 : Int) < 3) = false := rfl
        have e1 : ((S.size + Lex.cntK S.data.toList 3 : Nat) : Int) = ((Lex.enc S.data.toList).length : Nat) := by rw [Lex.enc_count]; congr 1; show _ + (_ + _ + _) = _; rw [hSl]; omega
        have e2 : decide (Lex.cntK S.data.toList 3 ≠ 0) = decide ((Lex.enc S.data.toList).length ≠ S.size) := by
          rw [decide_eq_decide, Lex.enc_count, hSl]; show (_ + _ + _ ≠ 0) ↔ _; omega
        rw [e1, e2]
        clear e1 e2 hd
        obtain ⟨N, HN⟩ : ∃ N, Hid (N = (Lex.enc S.data.toList).length) := ⟨_, Lib.hid rfl⟩
        rw [← HN.out]
        have hN1 : S.size ≤ N := by have := HL.out.1; rw [HN.out]; exact this
        have hN2 : N ≤ 200000000 := by have := HL.out.2; rw [HN.out]; omega
        have hWs := Lib.hid HBr.out.size
        obtain ⟨w1, Hw1⟩ : ∃ w1, Hid (w1 = wr) := ⟨_, Lib.hid rfl⟩
        have HB1 : Hid (Below W.heap.size W w1) := Lib.hid (by rw [Hw1.out]; exact HBr.out)
        rw [← Hw1.out]
        clear Hw1 hWs
        by_cases hch : N = S.size
        · have hd3 : decide (N ≠ S.size) = false := decide_eq_false (by omega)
          have HE := Lib.hid (Lex.enc_same S.data.toList (by rw [← HN.out]; exact hch))
          rw [hd3]
          go_wp2_with fail
          go_ret
          refine ⟨?_, HB1.out⟩
          rw [HE.out, Array.toArray_toList]
          rfl
        · have hd3 : decide (N ≠ S.size) = true := decide_eq_true (by omega)
          rw [hd3]
          go_wp2_with (at_make; refine wpList_make_full _ rfl _ _ 54 rfl w1.heap.size 5 i1 (.int .u8 0) 1 Tryz.underlying54 hi1 hy0 hy1 .i64 .i64 _ _ N rfl rfl rfl rfl (by rw [hy2]; omega) (by unfold maxLen; omega) (Nat.le_refl _) ?_; intro w3 hown hgr; have HO := Lib.hid hown; have HG := Lib.hid hgr; clear hown hgr)
          have HW3 : Hid (Whole w3 w1.heap.size 5 (List.replicate N (Value.int .u8 0)).toArray) := Lib.hid (by
            rcases HO.out.2 with ⟨hh, _⟩ | ⟨g, cap, cur, hv, _, hc, _, _, hcs, htk⟩
            · simp at hh
            · simp only [Value.slice.injEq, Option.some.injEq, Addr.mk.injEq, and_true] at hv
              obtain ⟨rfl, -, rfl⟩ := hv
              have e : (madeCells (Value.int .u8 0).cells (N * 1)).toList = List.replicate N (Value.int .u8 0) := by rw [Nat.mul_one]; exact toList_madeCells_one _ _
              rw [e] at htk
              have e2 : cur = (List.replicate N (Value.int .u8 0)).toArray := by
                apply Array.ext'
                have h3 : cur.toList.take (N * 1) = cur.toList := List.take_of_length_le (by rw [Array.length_toList, hcs]; omega)
                rw [h3] at htk
                rw [htk]
              rw [← e2]
              exact hc)
          have HB3 : Hid (Below W.heap.size W w3) := Lib.hid (HB1.out.trans ((show Below w1.heap.size w1 w3 from ⟨HG.out.os, HG.out.tape, HG.out.output, HG.out.size, fun k hk => HG.out.block k hk (by simp)⟩).mono HB1.out.size))
          obtain ⟨Bf, HBf⟩ : ∃ x, Hid (x = w1.heap.size) := ⟨_, Lib.hid rfl⟩
          have hWB : W.heap.size ≤ Bf := by rw [HBf.out]; exact HB1.out.size
          rw [← HBf.out]
          rw [← HBf.out] at HW3
          clear HBf HO HG HB1
          go_loopw [14, 13] (fun i j wr => ∃ (k : Nat) (cur : List Value), k ≤ S.size ∧ i = .int .i64 k ∧ j = .int .i64 ((Lex.enc (S.data.toList.take k)).length : Nat) ∧ Hid (Below W.heap.size W wr ∧ Whole wr Bf 5 cur.toArray ∧ cur.length = N ∧ cur.take (Lex.enc (S.data.toList.take k)).length = Lib.byteCells (Lex.enc (S.data.toList.take k)))) (fun i _ _ => S.size - (intOf i).toNat)
          case atStart => exact ⟨0, List.replicate N (.int .u8 0), Nat.zero_le _, by go_num, by rw [List.take_zero, Lex.enc_nil]; go_num, Lib.hid ⟨HB3.out, HW3.out, List.length_replicate, by rw [List.take_zero, Lex.enc_nil]; rfl⟩⟩
          case round =>
            clear HW3 HB3 HBr HT
            obtain ⟨k, cur, hk, rfl, rfl, HR⟩ := hrel
            have HT := Lib.hid (H0.out.below HR.out.1)
            by_cases hkS : k < S.size
            · have hd : decide ((k : Int) < (S.size : Int)) = true := decide_eq_true (by omega)
              have hb0 : (0 : Int) ≤ k := by omega
              have hb1 : (k : Int) < (S.size : Int) := by omega
              obtain ⟨c, Hc⟩ : ∃ c, Hid (c = S[k]) := ⟨_, Lib.hid rfl⟩
              have hTc : S[k] = c := Hc.out.symm
              have hc256 : (c.toNat : Int) < 256 := by have := c.toNat_lt; omega
              have hc0 : (0 : Int) ≤ c.toNat := by omega
              have HS := Lib.hid (Lex.enc_take hkS)
              rw [hTc] at HS
              obtain ⟨J, HJ⟩ : ∃ J, Hid (J = (Lex.enc (S.data.toList.take k)).length) := ⟨_, Lib.hid rfl⟩
              have HNk : Hid (J + (Lex.encC c).length ≤ N) := Lib.hid (by
                have h1 : S.data.toList = S.data.toList.take (k + 1) ++ S.data.toList.drop (k + 1) := (List.take_append_drop _ _).symm
                have h2 : Lex.enc S.data.toList = Lex.enc (S.data.toList.take (k + 1)) ++ Lex.enc (S.data.toList.drop (k + 1)) := by
                  conv => lhs; rw [h1]
                  unfold Lex.enc; rw [List.flatMap_append]
                rw [HN.out, h2, HS.out, List.length_append, List.length_append, HJ.out]; omega)
              rw [← HJ.out] at HR
              rw [← HJ.out]
              rcases Lex.rep_two c.toNat with hr | ⟨q, hr⟩
              · have kt : wr.cell? ⟨T, c.toNat, none⟩ = some (.slice none 0 0) := (HT.out.row.cell _).trans (HT.out.no _ c.toNat_lt hr)
                have hec : Lex.encC c = [c] := by rw [Lex.encC_rep, if_pos hr]
                rw [hec] at HS HNk
                have hJ1 : (J : Int) < (N : Int) := by have := HNk.out; simp at this; omega
                have hJ0 : (0 : Int) ≤ J := by omega
                have hJc : J < cur.length := by rw [HR.out.2.2.1]; omega
                have kb : wr.cell? ⟨Bf, J, none⟩ = some cur[J] := by rw [HR.out.2.1.cell, List.getElem?_toArray, List.getElem?_eq_getElem hJc]
                have kf : wr.frozen? ⟨Bf, J, none⟩ = false := HR.out.2.1.frozen _
                clear hr hec
                go_wp2_with fail
                go_round
                case rel =>
                  refine ⟨k + 1, cur.set J (.int .u8 c.toNat), by omega, by go_num, ?_, Lib.hid ⟨HR.out.1.setCell (p := ⟨Bf, J, none⟩) hWB _, ?_, by rw [List.length_set]; exact HR.out.2.2.1, ?_⟩⟩
                  · rw [HS.out, List.length_append, ← HJ.out]; go_num
                  · have := HR.out.2.1.set J (.int .u8 c.toNat)
                    rwa [List.setIfInBounds_toArray] at this
                  · rw [HS.out, List.length_append, ← HJ.out]
                    show (cur.set J _).take (J + 1) = _
                    rw [take_set_next _ _ hJc, HR.out.2.2.2, byteCells_app]; rfl
                case measure => simp [intOf]; omega
              · obtain ⟨b, cap, ht, hbl, hb92, hbq⟩ := HT.out.yes c.toNat q c.toNat_lt hr
                have kt : wr.cell? ⟨T, c.toNat, none⟩ = some (.slice (some ⟨b, 0, none⟩) 2 cap) := (HT.out.row.cell _).trans ht
                have hec : Lex.encC c = [92, q] := by rw [Lex.encC_rep, if_neg (by rw [hr]; simp), hr]
                rw [hec] at HS HNk
                have hJ1 : (J : Int) ≤ (N : Int) := by have := HNk.out; simp at this; omega
                have hJ2 : J + 2 ≤ N := HNk.out
                have hJ0 : (0 : Int) ≤ J := by omega
                have hJc : J + 2 ≤ cur.length := by rw [HR.out.2.2.1]; omega
                have HSP : Hid (∀ j v, [Value.int .u8 92, Value.int .u8 q.toNat][j]? = some v → wr.cell? (Addr.add ⟨b, 0, none⟩ j) = some v) := Lib.hid (by
                  intro j v hv
                  match j, hv with
                  | 0, hv => exact hb92.trans hv
                  | 1, hv => exact hbq.trans hv)
                clear hr hec ht hb92 hbq
                go_wp2_with fail
                obtain ⟨w4, hcp, HW4⟩ : ∃ w4, (Builtin.copy_ #[54, 54] 3 #[.slice (some ⟨Bf, J, none⟩) (N - J) (N - J), .slice (some ⟨b, 0, none⟩) 2 cap]).run Tryz.prog wr.drew = .ok (.int .i64 2) w4 ∧ Hid (Whole w4 Bf 5 (splice cur J [.int .u8 92, .int .u8 q.toNat]).toArray ∧ Below W.heap.size W w4) := by
                  refine ⟨_, run_copy_row _ wr.drew 54 54 3 5 Bf J (N - J) (N - J) ⟨b, 0, none⟩ 2 cap cur.toArray 5 [.int .u8 92, .int .u8 q.toNat] Tryz.underlying54 (by kernel_rfl) HR.out.2.1 ?_ HSP.out (by simpa using hJc) (by simp [Value.oneCell']), Lib.hid ⟨?_, ?_⟩⟩
                  · show 2 = min 2 (N - J); omega
                  · have := setRow_heap wr.drew Bf _ (splice cur J [.int .u8 92, .int .u8 q.toNat]).toArray _ _ HR.out.2.1
                    unfold splice at this ⊢
                    rw [← List.append_assoc] at this ⊢
                    exact this
                  · exact below_setRow HR.out.1.drew hWB _
                have hNJ : ¬ N = J := by omega
                have HJn := Lib.hid hJ2
                clear hJ2
                go_region
                all_goals (go_wp2_with fail)
                all_goals go_round
                case rel =>
                  refine ⟨k + 1, splice cur J [.int .u8 92, .int .u8 q.toNat], by omega, by go_num, ?_, Lib.hid ⟨HW4.out.2, HW4.out.1, by rw [length_splice _ _ _ hJc]; exact HR.out.2.2.1, ?_⟩⟩
                  · rw [HS.out, List.length_append, ← HJ.out]; have := HJn.out; go_num
                  · rw [HS.out, List.length_append, ← HJ.out]
                    have h1 := take_splice cur J [Value.int .u8 92, Value.int .u8 q.toNat] (by omega)
                    show (splice cur J _).take (J + 2) = _
                    refine h1.trans ?_
                    rw [HR.out.2.2.2, byteCells_app]; rfl
                case measure => simp [intOf]; omega
            · have hkk : k = S.size := by omega
              have hd : decide ((k : Int) < (S.size : Int)) = false := decide_eq_false (by omega)
              have e0 : S.data.toList.take k = S.data.toList := List.take_of_length_le (by omega)
              rw [e0, ← HN.out] at HR
              have hcv : (convert 54 9 (.slice (some ⟨Bf, 0, none⟩) N N)).run Tryz.prog wr = .ok (.string ⟨(Lex.enc S.data.toList).toArray⟩) wr := by
                conv => lhs; rw [HN.out]
                refine run_convert_bytes_back wr 54 9 5 ⟨Bf, 0, none⟩ _ _ Tryz.underlying54 Tryz.underlying5 Tryz.underlying9 fun j hj => ?_
                have hjN : j < N := by rw [HN.out]; exact hj
                have h1 : cur[j]? = some (.int .u8 ((Lex.enc S.data.toList)[j].toNat : Int)) := by
                  have h2 : (cur.take N)[j]? = (Lib.byteCells (Lex.enc S.data.toList))[j]? := by rw [HR.out.2.2.2]
                  rw [List.getElem?_take_of_lt hjN] at h2
                  rw [h2]; unfold Lib.byteCells; rw [List.getElem?_map, List.getElem?_eq_getElem hj]; rfl
                have h3 := HR.out.2.1.cell j
                rw [List.getElem?_toArray, h1] at h3
                have e : Addr.add ⟨Bf, 0, none⟩ j = ⟨Bf, j, none⟩ := by cases j <;> simp [Addr.add]
                rw [e]; exact h3
              go_wp2_with fail
              go_ret
              exact ⟨rfl, HR.out.1⟩
  · have hdb : decide ((24 : Int) ≤ (S.size : Int)) = false := decide_eq_false (by omega)
    go_wp2_with fail
    go_loopw [10, 5, 6] (fun i n c wr => ∃ k : Nat, k ≤ S.size ∧ Hid (Below W.heap.size W wr) ∧ i = .int .i64 k ∧ n = .int .i64 (((Lex.enc (S.data.toList.take k)).length + (S.size - k) : Nat) : Int) ∧ c = .bool (decide ((Lex.enc (S.data.toList.take k)).length ≠ k))) (fun i _ _ _ => S.size - (intOf i).toNat)
    case atStart => exact ⟨0, Nat.zero_le _, Lib.hid (Below.refl _ _), by go_num, by rw [List.take_zero, Lex.enc_nil]; simp, by rw [List.take_zero, Lex.enc_nil]; rfl⟩
    case round =>
      obtain ⟨k, hk, HBr, rfl, rfl, rfl⟩ := hrel
      have HT := Lib.hid (H0.out.below HBr.out)
      by_cases hkS : k < S.size
      · have hd : decide ((k : Int) < (S.size : Int)) = true := decide_eq_true (by omega)
        have hb0 : (0 : Int) ≤ k := by omega
        have hb1 : (k : Int) < (S.size : Int) := by omega
        obtain ⟨c, Hc⟩ : ∃ c, Hid (c = S[k]) := ⟨_, Lib.hid rfl⟩
        have hTc : S[k] = c := Hc.out.symm
        have hc256 : (c.toNat : Int) < 256 := by have := c.toNat_lt; omega
        have hc0 : (0 : Int) ≤ c.toNat := by omega
        have HS := Lib.hid (Lex.enc_take hkS)
        rw [hTc] at HS
        have HLk := Lib.hid (Lex.enc_len (S.data.toList.take k))
        have htk : (S.data.toList.take k).length = k := by rw [List.length_take]; omega
        rw [htk] at HLk
        obtain ⟨n, Hn⟩ : ∃ n, Hid (n = (Lex.enc (S.data.toList.take k)).length + (S.size - k)) := ⟨_, Lib.hid rfl⟩
        have hn : n ≤ 200000000 := by have := HLk.out; rw [Hn.out]; omega
        rw [← Hn.out]
        rcases Lex.rep_two c.toNat with hr | ⟨q, hr⟩
        · have kt : wr.cell? ⟨T, c.toNat, none⟩ = some (.slice none 0 0) := (HT.out.row.cell _).trans (HT.out.no _ c.toNat_lt hr)
          have he : (Lex.enc (S.data.toList.take (k + 1))).length = (Lex.enc (S.data.toList.take k)).length + 1 := by
            rw [HS.out, List.length_append, Lex.encC_rep, if_pos hr]; rfl
          have HE := Lib.hid he
          clear hr he htk
          go_wp2_with fail
          go_round
          case rel =>
            refine ⟨k + 1, by omega, HBr, by go_num, ?_, ?_⟩
            · rw [HE.out, Hn.out]; congr 2; omega
            · rw [HE.out]; congr 1; rw [decide_eq_decide]; omega
          case measure => simp [intOf]; omega
        · obtain ⟨b, cap, ht, hbl, hb92, hbq⟩ := HT.out.yes c.toNat q c.toNat_lt hr
          have kt : wr.cell? ⟨T, c.toNat, none⟩ = some (.slice (some ⟨b, 0, none⟩) 2 cap) := (HT.out.row.cell _).trans ht
          have he : (Lex.enc (S.data.toList.take (k + 1))).length = (Lex.enc (S.data.toList.take k)).length + 2 := by
            rw [HS.out, List.length_append, Lex.encC_rep, if_neg (by rw [hr]; simp), hr]; rfl
          have HE := Lib.hid he
          clear hr he htk ht hbl hb92 hbq
          go_wp2_with fail
          go_round
          case rel =>
            refine ⟨k + 1, by omega, HBr, by go_num, ?_, ?_⟩
            · rw [HE.out]; have := Hn.out; have := HLk.out; go_num
            · rw [HE.out, decide_eq_true]; have := HLk.out; omega
          case measure => simp [intOf]; omega
      · have hkk : k = S.size := by omega
        have hd : decide ((k : Int) < (S.size : Int)) = false := decide_eq_false (by omega)
        have e0 : S.data.toList.take k = S.data.toList := List.take_of_length_le (by omega)
        have e1 : (((Lex.enc (S.data.toList.take k)).length + (S.size - k) : Nat) : Int) = ((Lex.enc S.data.toList).length : Nat) := by rw [e0]; congr 1; omega
        have e2 : decide ((Lex.enc (S.data.toList.take k)).length ≠ k) = decide ((Lex.enc S.data.toList).length ≠ S.size) := by rw [e0, hkk]
        rw [e1, e2]
        clear e0 e1 e2
        obtain ⟨N, HN⟩ : ∃ N, Hid (N = (Lex.enc S.data.toList).length) := ⟨_, Lib.hid rfl⟩
        rw [← HN.out]
        have hN1 : S.size ≤ N := by have := HL.out.1; rw [HN.out]; exact this
        have hN2 : N ≤ 200000000 := by have := HL.out.2; rw [HN.out]; omega
        have hWs := Lib.hid HBr.out.size
        obtain ⟨w1, Hw1⟩ : ∃ w1, Hid (w1 = wr) := ⟨_, Lib.hid rfl⟩
        have HB1 : Hid (Below W.heap.size W w1) := Lib.hid (by rw [Hw1.out]; exact HBr.out)
        rw [← Hw1.out]
        clear Hw1 hWs
        by_cases hch : N = S.size
        · have hd3 : decide (N ≠ S.size) = false := decide_eq_false (by omega)
          have HE := Lib.hid (Lex.enc_same S.data.toList (by rw [← HN.out]; exact hch))
          rw [hd3]
          go_wp2_with fail
          go_ret
          refine ⟨?_, HB1.out⟩
          rw [HE.out, Array.toArray_toList]
          rfl
        · have hd3 : decide (N ≠ S.size) = true := decide_eq_true (by omega)
          rw [hd3]
          go_wp2_with (at_make; refine wpList_make_full _ rfl _ _ 54 rfl w1.heap.size 5 i1 (.int .u8 0) 1 Tryz.underlying54 hi1 hy0 hy1 .i64 .i64 _ _ N rfl rfl rfl rfl (by rw [hy2]; omega) (by unfold maxLen; omega) (Nat.le_refl _) ?_; intro w3 hown hgr; have HO := Lib.hid hown; have HG := Lib.hid hgr; clear hown hgr)
          have HW3 : Hid (Whole w3 w1.heap.size 5 (List.replicate N (Value.int .u8 0)).toArray) := Lib.hid (by
            rcases HO.out.2 with ⟨hh, _⟩ | ⟨g, cap, cur, hv, _, hc, _, _, hcs, htk⟩
            · simp at hh
            · simp only [Value.slice.injEq, Option.some.injEq, Addr.mk.injEq, and_true] at hv
              obtain ⟨rfl, -, rfl⟩ := hv
              have e : (madeCells (Value.int .u8 0).cells (N * 1)).toList = List.replicate N (Value.int .u8 0) := by rw [Nat.mul_one]; exact toList_madeCells_one _ _
              rw [e] at htk
              have e2 : cur = (List.replicate N (Value.int .u8 0)).toArray := by
                apply Array.ext'
                have h3 : cur.toList.take (N * 1) = cur.toList := List.take_of_length_le (by rw [Array.length_toList, hcs]; omega)
                rw [h3] at htk
                rw [htk]
              rw [← e2]
              exact hc)
          have HB3 : Hid (Below W.heap.size W w3) := Lib.hid (HB1.out.trans ((show Below w1.heap.size w1 w3 from ⟨HG.out.os, HG.out.tape, HG.out.output, HG.out.size, fun k hk => HG.out.block k hk (by simp)⟩).mono HB1.out.size))
          obtain ⟨Bf, HBf⟩ : ∃ x, Hid (x = w1.heap.size) := ⟨_, Lib.hid rfl⟩
          have hWB : W.heap.size ≤ Bf := by rw [HBf.out]; exact HB1.out.size
          rw [← HBf.out]
          rw [← HBf.out] at HW3
          clear HBf HO HG HB1
          go_loopw [14, 13] (fun i j wr => ∃ (k : Nat) (cur : List Value), k ≤ S.size ∧ i = .int .i64 k ∧ j = .int .i64 ((Lex.enc (S.data.toList.take k)).length : Nat) ∧ Hid (Below W.heap.size W wr ∧ Whole wr Bf 5 cur.toArray ∧ cur.length = N ∧ cur.take (Lex.enc (S.data.toList.take k)).length = Lib.byteCells (Lex.enc (S.data.toList.take k)))) (fun i _ _ => S.size - (intOf i).toNat)
          case atStart => exact ⟨0, List.replicate N (.int .u8 0), Nat.zero_le _, by go_num, by rw [List.take_zero, Lex.enc_nil]; go_num, Lib.hid ⟨HB3.out, HW3.out, List.length_replicate, by rw [List.take_zero, Lex.enc_nil]; rfl⟩⟩
          case round =>
            clear HW3 HB3 HBr HT
            obtain ⟨k, cur, hk, rfl, rfl, HR⟩ := hrel
            have HT := Lib.hid (H0.out.below HR.out.1)
            by_cases hkS : k < S.size
            · have hd : decide ((k : Int) < (S.size : Int)) = true := decide_eq_true (by omega)
              have hb0 : (0 : Int) ≤ k := by omega
              have hb1 : (k : Int) < (S.size : Int) := by omega
              obtain ⟨c, Hc⟩ : ∃ c, Hid (c = S[k]) := ⟨_, Lib.hid rfl⟩
              have hTc : S[k] = c := Hc.out.symm
              have hc256 : (c.toNat : Int) < 256 := by have := c.toNat_lt; omega
              have hc0 : (0 : Int) ≤ c.toNat := by omega
              have HS := Lib.hid (Lex.enc_take hkS)
              rw [hTc] at HS
              obtain ⟨J, HJ⟩ : ∃ J, Hid (J = (Lex.enc (S.data.toList.take k)).length) := ⟨_, Lib.hid rfl⟩
              have HNk : Hid (J + (Lex.encC c).length ≤ N) := Lib.hid (by
                have h1 : S.data.toList = S.data.toList.take (k + 1) ++ S.data.toList.drop (k + 1) := (List.take_append_drop _ _).symm
                have h2 : Lex.enc S.data.toList = Lex.enc (S.data.toList.take (k + 1)) ++ Lex.enc (S.data.toList.drop (k + 1)) := by
                  conv => lhs; rw [h1]
                  unfold Lex.enc; rw [List.flatMap_append]
                rw [HN.out, h2, HS.out, List.length_append, List.length_append, HJ.out]; omega)
              rw [← HJ.out] at HR
              rw [← HJ.out]
              rcases Lex.rep_two c.toNat with hr | ⟨q, hr⟩
              · have kt : wr.cell? ⟨T, c.toNat, none⟩ = some (.slice none 0 0) := (HT.out.row.cell _).trans (HT.out.no _ c.toNat_lt hr)
                have hec : Lex.encC c = [c] := by rw [Lex.encC_rep, if_pos hr]
                rw [hec] at HS HNk
                have hJ1 : (J : Int) < (N : Int) := by have := HNk.out; simp at this; omega
                have hJ0 : (0 : Int) ≤ J := by omega
                have hJc : J < cur.length := by rw [HR.out.2.2.1]; omega
                have kb : wr.cell? ⟨Bf, J, none⟩ = some cur[J] := by rw [HR.out.2.1.cell, List.getElem?_toArray, List.getElem?_eq_getElem hJc]
                have kf : wr.frozen? ⟨Bf, J, none⟩ = false := HR.out.2.1.frozen _
                clear hr hec
                go_wp2_with fail
                go_round
                case rel =>
                  refine ⟨k + 1, cur.set J (.int .u8 c.toNat), by omega, by go_num, ?_, Lib.hid ⟨HR.out.1.setCell (p := ⟨Bf, J, none⟩) hWB _, ?_, by rw [List.length_set]; exact HR.out.2.2.1, ?_⟩⟩
                  · rw [HS.out, List.length_append, ← HJ.out]; go_num
                  · have := HR.out.2.1.set J (.int .u8 c.toNat)
                    rwa [List.setIfInBounds_toArray] at this
                  · rw [HS.out, List.length_append, ← HJ.out]
                    show (cur.set J _).take (J + 1) = _
                    rw [take_set_next _ _ hJc, HR.out.2.2.2, byteCells_app]; rfl
                case measure => simp [intOf]; omega
              · obtain ⟨b, cap, ht, hbl, hb92, hbq⟩ := HT.out.yes c.toNat q c.toNat_lt hr
                have kt : wr.cell? ⟨T, c.toNat, none⟩ = some (.slice (some ⟨b, 0, none⟩) 2 cap) := (HT.out.row.cell _).trans ht
                have hec : Lex.encC c = [92, q] := by rw [Lex.encC_rep, if_neg (by rw [hr]; simp), hr]
                rw [hec] at HS HNk
                have hJ1 : (J : Int) ≤ (N : Int) := by have := HNk.out; simp at this; omega
                have hJ2 : J + 2 ≤ N := HNk.out
                have hJ0 : (0 : Int) ≤ J := by omega
                have hJc : J + 2 ≤ cur.length := by rw [HR.out.2.2.1]; omega
                have HSP : Hid (∀ j v, [Value.int .u8 92, Value.int .u8 q.toNat][j]? = some v → wr.cell? (Addr.add ⟨b, 0, none⟩ j) = some v) := Lib.hid (by
                  intro j v hv
                  match j, hv with
                  | 0, hv => exact hb92.trans hv
                  | 1, hv => exact hbq.trans hv)
                clear hr hec ht hb92 hbq
                go_wp2_with fail
                obtain ⟨w4, hcp, HW4⟩ : ∃ w4, (Builtin.copy_ #[54, 54] 3 #[.slice (some ⟨Bf, J, none⟩) (N - J) (N - J), .slice (some ⟨b, 0, none⟩) 2 cap]).run Tryz.prog wr.drew = .ok (.int .i64 2) w4 ∧ Hid (Whole w4 Bf 5 (splice cur J [.int .u8 92, .int .u8 q.toNat]).toArray ∧ Below W.heap.size W w4) := by
                  refine ⟨_, run_copy_row _ wr.drew 54 54 3 5 Bf J (N - J) (N - J) ⟨b, 0, none⟩ 2 cap cur.toArray 5 [.int .u8 92, .int .u8 q.toNat] Tryz.underlying54 (by kernel_rfl) HR.out.2.1 ?_ HSP.out (by simpa using hJc) (by simp [Value.oneCell']), Lib.hid ⟨?_, ?_⟩⟩
                  · show 2 = min 2 (N - J); omega
                  · have := setRow_heap wr.drew Bf _ (splice cur J [.int .u8 92, .int .u8 q.toNat]).toArray _ _ HR.out.2.1
                    unfold splice at this ⊢
                    rw [← List.append_assoc] at this ⊢
                    exact this
                  · exact below_setRow HR.out.1.drew hWB _
                have hNJ : ¬ N = J := by omega
                have HJn := Lib.hid hJ2
                clear hJ2
                go_region
                all_goals (go_wp2_with fail)
                all_goals go_round
                case rel =>
                  refine ⟨k + 1, splice cur J [.int .u8 92, .int .u8 q.toNat], by omega, by go_num, ?_, Lib.hid ⟨HW4.out.2, HW4.out.1, by rw [length_splice _ _ _ hJc]; exact HR.out.2.2.1, ?_⟩⟩
                  · rw [HS.out, List.length_append, ← HJ.out]; have := HJn.out; go_num
                  · rw [HS.out, List.length_append, ← HJ.out]
                    have h1 := take_splice cur J [Value.int .u8 92, Value.int .u8 q.toNat] (by omega)
                    show (splice cur J _).take (J + 2) = _
                    refine h1.trans ?_
                    rw [HR.out.2.2.2, byteCells_app]; rfl
                case measure => simp [intOf]; omega
            · have hkk : k = S.size := by omega
              have hd : decide ((k : Int) < (S.size : Int)) = false := decide_eq_false (by omega)
              have e0 : S.data.toList.take k = S.data.toList := List.take_of_length_le (by omega)
              rw [e0, ← HN.out] at HR
              have hcv : (convert 54 9 (.slice (some ⟨Bf, 0, none⟩) N N)).run Tryz.prog wr = .ok (.string ⟨(Lex.enc S.data.toList).toArray⟩) wr := by
                conv => lhs; rw [HN.out]
                refine run_convert_bytes_back wr 54 9 5 ⟨Bf, 0, none⟩ _ _ Tryz.underlying54 Tryz.underlying5 Tryz.underlying9 fun j hj => ?_
                have hjN : j < N := by rw [HN.out]; exact hj
                have h1 : cur[j]? = some (.int .u8 ((Lex.enc S.data.toList)[j].toNat : Int)) := by
                  have h2 : (cur.take N)[j]? = (Lib.byteCells (Lex.enc S.data.toList))[j]? := by rw [HR.out.2.2.2]
                  rw [List.getElem?_take_of_lt hjN] at h2
                  rw [h2]; unfold Lib.byteCells; rw [List.getElem?_map, List.getElem?_eq_getElem hj]; rfl
                have h3 := HR.out.2.1.cell j
                rw [List.getElem?_toArray, h1] at h3
                have e : Addr.add ⟨Bf, 0, none⟩ j = ⟨Bf, j, none⟩ := by cases j <;> simp [Addr.add]
                rw [e]; exact h3
              go_wp2_with fail
              go_ret
              exact ⟨rfl, HR.out.1⟩

end Go.Proofs.YtfkejnnbfneieaaGreatDoor

/- strings.NewReplacer's one building of its table: sync.Once, not yet done, the lock free. -/
namespace Go.Proofs.YtfkejnnbfneieaaGreatDoor
open Go.RowKit

theorem race_disable (w : World) : (callFunc 154 #[]).run Tryz.prog w = .ok (.value (.tuple #[])) w := run_call_mark0 Tryz.func154 (by kernel_rfl) (by kernel_rfl) (by kernel_rfl) .disable (by kernel_rfl) w
theorem race_enable (w : World) : (callFunc 156 #[]).run Tryz.prog w = .ok (.value (.tuple #[])) w := run_call_mark0 Tryz.func156 (by kernel_rfl) (by kernel_rfl) (by kernel_rfl) .enable (by kernel_rfl) w
theorem race_acquire (a : Addr) (w : World) : (callFunc 157 #[.pointer (some a)]).run Tryz.prog w = .ok (.value (.tuple #[])) w := run_call_marked Tryz.func157 (by kernel_rfl) (by kernel_rfl) (by kernel_rfl) .acquire (by kernel_rfl) a w
theorem race_release (a : Addr) (w : World) : (callFunc 159 #[.pointer (some a)]).run Tryz.prog w = .ok (.value (.tuple #[])) w := run_call_marked Tryz.func159 (by kernel_rfl) (by kernel_rfl) (by kernel_rfl) .releaseMerge (by kernel_rfl) a w

set_option maxRecDepth 100000 in
theorem store_late (a : Addr) (x : Value) (u : FrameMode) (w : World) (hc : w.cell? a = some x) (hz : w.frozen? a = false) :
    CallsD Tryz.prog 140 #[.pointer (some a), .bool true] u w fun e u' w' => u' = u ∧ (e = .returned (.tuple #[]) ∧ w' = w.drew.setCell a (.int .u32 1)) := by
  have hc' : w.drew.cell? a = some x := by go_simp
  have hz' : w.drew.frozen? a = false := by go_simp
  have hst := run_call_store (P := Tryz.prog) Tryz.func150 (by kernel_rfl) (by kernel_rfl) (by kernel_rfl) (by kernel_rfl) (k := .u32) (y := 1) hc' hz'
  go_enter_d Tryz.func140, Tryz.ntmps140
  go_wp2
  go_region_calls
  all_goals (go_end0; exact ⟨rfl, rfl⟩)

set_option maxRecDepth 100000 in
theorem unlock_late (a : Addr) (u : FrameMode) (w : World) (hc : w.cell? a = some (.int .i32 1)) (hz : w.frozen? a = false) :
    CallsD Tryz.prog 139 #[.pointer (some a)] u w fun e u' w' => u' = u ∧ (e = .returned (.tuple #[]) ∧ w' = w.setCell a (.int .i32 0)) := by
  have hd := race_disable
  have he := race_enable
  have hr := race_release
  have hadd := run_call_add (P := Tryz.prog) Tryz.func160 (by kernel_rfl) (by kernel_rfl) (by kernel_rfl) .i32 (by kernel_rfl) (y := -1) (s := 0) hc hz (by simp [go_sem]; rfl)
  have hcv := run_convert_to_unsafe (P := Tryz.prog) (src := 228) (dst := 170) Tryz.underlying228 Tryz.underlying170 (by kernel_rfl) hc
  go_enter_d Tryz.func139, Tryz.ntmps139
  go_wp2
  go_end0
  go_wp2
  go_end0
  exact ⟨rfl, rfl⟩

set_option maxRecDepth 100000 in
theorem lock_now (a : Addr) (w : World) (hc : w.cell? a = some (.int .i32 0)) (hz : w.frozen? a = false) :
    Calls Tryz.prog 138 #[.pointer (some a)] w fun e w' => e = .returned (.tuple #[]) ∧ w' = w.setCell a (.int .i32 1) := by
  have hd := race_disable
  have he := race_enable
  have ha := race_acquire
  have hcas := run_call_cas_hit (P := Tryz.prog) Tryz.func155 (by kernel_rfl) (by kernel_rfl) (by kernel_rfl) .i32 (by kernel_rfl) (y := 1) hc hz
  have hc' : (w.setCell a (.int .i32 1)).cell? a = some (.int .i32 1) := World.cell?_setCell_same w a _ hc
  have hcv := run_convert_to_unsafe (P := Tryz.prog) (src := 228) (dst := 170) Tryz.underlying228 Tryz.underlying170 (by kernel_rfl) hc'
  go_enter Tryz.func138, Tryz.ntmps138
  go_wp2
  first | go_end0 | (simp only [Exit.inBlock, Exit.then]; refine bodyPost_ret (results_none rfl _ _ _) rfl ?_) | refine bodyPost_ret (results_none rfl _ _ _) rfl ?_
  go_wp2
  go_end0
  exact ⟨rfl, rfl⟩


/-- What building leaves, whatever is done to the once behind it. -/
structure OnceQ (R : Nat) (Q : Value → Value → World → Prop) : Prop where
  set : ∀ y3 y4 A i v, Q y3 y4 A → Q y3 y4 (A.setCell ⟨R, i, none⟩ v)
  drew : ∀ y3 y4 A, Q y3 y4 A → Q y3 y4 A.drew

set_option maxRecDepth 100000 in
set_option maxHeartbeats 1600000 in
theorem slow_once (R : Nat) (x3 x4 : Value) (Q : Value → Value → World → Prop) (hQ : OnceQ R Q) (w : World) (h : Whole w R 140 #[.int .u32 0, .int .i32 0, .int .u32 0, x3, x4])
    (hf : ∀ w1, w1 = w.setCell ⟨R, 1, none⟩ (.int .i32 1) → Calls Tryz.prog 90 #[.pointer (some ⟨R, 0, none⟩)] w1 fun e w2 => e = .returned (.tuple #[]) ∧ ∃ y3 y4, Whole w2 R 140 #[.int .u32 0, .int .i32 1, .int .u32 0, y3, y4] ∧ Q y3 y4 w2) :
    Calls Tryz.prog 118 #[.pointer (some ⟨R, 0, none⟩), .func (.func 90) #[.pointer (some ⟨R, 0, none⟩)] #[]] w fun e w' => e = .returned (.tuple #[]) ∧ ∃ y3 y4, Whole w' R 140 #[.int .u32 1, .int .i32 0, .int .u32 0, y3, y4] ∧ Q y3 y4 w' := by
  have H := Lib.hid h
  have HF := Lib.hid hf
  have h0 : w.cell? ⟨R, 0, none⟩ = some (.int .u32 0) := h.cell 0
  have h1 : w.cell? ⟨R, 1, none⟩ = some (.int .i32 0) := h.cell 1
  have f0 : w.frozen? ⟨R, 0, none⟩ = false := h.frozen 0
  have f1 : w.frozen? ⟨R, 1, none⟩ = false := h.frozen 1
  clear h hf
  have hl := run_call_load (P := Tryz.prog) Tryz.func137 (by kernel_rfl) (by kernel_rfl) (by kernel_rfl) .u32 (by kernel_rfl) (w := w.setCell ⟨R, 1, none⟩ (.int .i32 1)) (a := ⟨R, 0, none⟩) (x := 0) ((World.cell?_setCell_other _ ⟨R, 1, none⟩ ⟨R, 0, none⟩ _ (by simp)).trans h0)
  have hnot : ∀ (x : Bool) (w : World), (Op.unary .not (.bool x)).run Tryz.prog w = .ok (.bool (!x)) w := fun _ _ => rfl
  go_enter_defers Tryz.func118, Tryz.ntmps118
  go_wp2_with (first | (go_at_call 138; refine (lock_now ⟨R, 1, none⟩ _ h1 f1).mono ?_; rintro e w' ⟨rfl, rfl⟩) | (go_at_call 90; refine (HF.out _ rfl).mono ?_; rintro e w2 ⟨rfl, y3, y4, HW, Hq⟩; replace HW := Lib.hid HW; replace Hq := Lib.hid Hq) | (go_at_call 117; go_in))
  -- the two deferred calls
  refine leaves_cons (f := 140) (args := #[.pointer (some ⟨R, 0, none⟩), .bool true]) (by simp) (by simp [go_sem]) ?_
  refine (store_late ⟨R, 0, none⟩ (.int .u32 0) .returning _ (HW.out.cell 0) (HW.out.frozen 0)).mono ?_
  rintro e u' w'' ⟨rfl, rfl, rfl⟩
  refine leaves_cons (f := 139) (args := #[.pointer (some ⟨R, 1, none⟩)]) (by simp [settle]) (by simp [go_sem]) ?_
  refine (unlock_late ⟨R, 1, none⟩ _ _ ?_ ?_).mono ?_
  · exact (HW.out.drew.set 0 (.int .u32 1)).cell 1
  · exact (HW.out.drew.set 0 (.int .u32 1)).frozen 1
  rintro e u' w'' ⟨rfl, rfl, rfl⟩
  have hfin : ∃ y3 y4, Whole ((w2.drew.setCell ⟨R, 0, none⟩ (.int .u32 1)).setCell ⟨R, 1, none⟩ (.int .i32 0)) R 140 #[.int .u32 1, .int .i32 0, .int .u32 0, y3, y4] ∧ Q y3 y4 ((w2.drew.setCell ⟨R, 0, none⟩ (.int .u32 1)).setCell ⟨R, 1, none⟩ (.int .i32 0)) :=
    ⟨y3, y4, (HW.out.drew.set 0 _).set 1 _, hQ.set _ _ _ _ _ (hQ.set _ _ _ _ _ (hQ.drew _ _ _ Hq.out))⟩
  simp [Leaves, settle, results, Tryz.results118]
  exact hfin

set_option maxRecDepth 100000 in
set_option maxHeartbeats 1600000 in
theorem once_do (R : Nat) (x3 x4 : Value) (Q : Value → Value → World → Prop) (hQ : OnceQ R Q) (w : World) (h : Whole w R 140 #[.int .u32 0, .int .i32 0, .int .u32 0, x3, x4])
    (hf : ∀ w1, w1 = w.setCell ⟨R, 1, none⟩ (.int .i32 1) → Calls Tryz.prog 90 #[.pointer (some ⟨R, 0, none⟩)] w1 fun e w2 => e = .returned (.tuple #[]) ∧ ∃ y3 y4, Whole w2 R 140 #[.int .u32 0, .int .i32 1, .int .u32 0, y3, y4] ∧ Q y3 y4 w2) :
    Calls Tryz.prog 89 #[.pointer (some ⟨R, 0, none⟩), .func (.func 90) #[.pointer (some ⟨R, 0, none⟩)] #[]] w fun e w' => e = .returned (.tuple #[]) ∧ ∃ y3 y4, Whole w' R 140 #[.int .u32 1, .int .i32 0, .int .u32 0, y3, y4] ∧ Q y3 y4 w' := by
  have h0 : w.cell? ⟨R, 0, none⟩ = some (.int .u32 0) := h.cell 0
  have HS := Lib.hid (slow_once R x3 x4 Q hQ w h hf)
  clear h hf
  have hl := run_call_load (P := Tryz.prog) Tryz.func137 (by kernel_rfl) (by kernel_rfl) (by kernel_rfl) .u32 (by kernel_rfl) h0
  have hnot : ∀ (x : Bool) (w : World), (Op.unary .not (.bool x)).run Tryz.prog w = .ok (.bool (!x)) w := fun _ _ => rfl
  go_enter Tryz.func89, Tryz.ntmps89
  go_wp2_with (first | (go_at_call 118; refine HS.out.mono ?_; rintro e w' ⟨rfl, HW⟩; replace HW := Lib.hid HW) | (go_at_call 117; go_in))
  go_end0
  exact ⟨rfl, HW.out⟩

end Go.Proofs.YtfkejnnbfneieaaGreatDoor

/- Quote. -/
namespace Go.Proofs.YtfkejnnbfneieaaGreatDoor
open Go.RowKit

/-- The replacer's block. -/
def rpC (d m : Int) (x3 x4 : Value) : Array Value := #[.int .u32 d, .int .i32 m, .int .u32 0, x3, x4]

/-- What building leaves: the table, and all that is older than the replacer. -/
def BuiltQ (W : World) (R : Nat) (y3 y4 : Value) (w : World) : Prop :=
  ∃ T cs X, y3 = .iface 204 (.pointer (some ⟨T, 0, none⟩)) ∧ y4 = .slice none 0 0 ∧ RTab w T cs X ∧ R ≠ T ∧ R ≠ X ∧ (∀ c q, c < 256 → Lex.repB c = [92, q] → ∀ b cap, cs[c]? = some (.slice (some ⟨b, 0, none⟩) 2 cap) → b ≠ R) ∧ Below W.heap.size W w

theorem RTab.far {W : World} {T X R : Nat} {cs : Array Value} (h : RTab W T cs X) (h1 : R ≠ T) (h2 : R ≠ X) (h3 : ∀ c q, c < 256 → Lex.repB c = [92, q] → ∀ b cap, cs[c]? = some (.slice (some ⟨b, 0, none⟩) 2 cap) → b ≠ R) (i : Nat) (v : Value) : RTab (W.setCell ⟨R, i, none⟩ v) T cs X :=
  ⟨h.size, h.row.far (p := ⟨R, i, none⟩) (fun e => h1 e.symm) v, h.list, h.texts.far (p := ⟨R, i, none⟩) (fun e => h2 e.symm) v, h.no, fun c q hc hq => by
    obtain ⟨b, cap, g1, g2, g3, g4⟩ := h.yes c q hc hq
    have hb := h3 c q hc hq b cap g1
    have e1 := Below.heap_setCell W ⟨R, i, none⟩ v b hb
    exact ⟨b, cap, g1, by rw [World.size_setCell]; exact g2, by simp only [World.cell?, e1]; exact g3, by simp only [World.cell?, e1]; exact g4⟩⟩
theorem RTab.drew {W : World} {T X : Nat} {cs : Array Value} (h : RTab W T cs X) : RTab W.drew T cs X := ⟨h.size, h.row, h.list, h.texts, h.no, h.yes⟩

theorem built_once {W : World} {R : Nat} (hR : W.heap.size ≤ R) : OnceQ R (BuiltQ W R) :=
  ⟨fun _ _ _ i v ⟨T, cs, X, e1, e2, h, h1, h2, h3, hb⟩ => ⟨T, cs, X, e1, e2, h.far h1 h2 h3 i v, h1, h2, h3, hb.setCell (p := ⟨R, i, none⟩) hR v⟩,
   fun _ _ _ ⟨T, cs, X, e1, e2, h, h1, h2, h3, hb⟩ => ⟨T, cs, X, e1, e2, h.drew, h1, h2, h3, hb.drew⟩⟩

set_option maxRecDepth 100000 in
set_option maxHeartbeats 1600000 in
theorem once_build (W w : World) (R A cap : Nat) (x3 : Value) (hWR : W.heap.size ≤ R) (h : Whole w R 140 #[.int .u32 0, .int .i32 1, .int .u32 0, x3, .slice (some ⟨A, 0, none⟩) 6 cap]) (hA : Six w A) (hb : Below W.heap.size W w) :
    Calls Tryz.prog 90 #[.pointer (some ⟨R, 0, none⟩)] w fun e w2 => e = .returned (.tuple #[]) ∧ ∃ y3 y4, Whole w2 R 140 #[.int .u32 0, .int .i32 1, .int .u32 0, y3, y4] ∧ BuiltQ W R y3 y4 w2 := by
  have HB := Lib.hid (build_any R A cap w (h.cell 4) hA)
  have H := Lib.hid h
  have Hb := Lib.hid hb
  have hlt := h.lt
  clear h hA hb
  go_enter Tryz.func90, Tryz.ntmps90
  go_wp2_with fail
  refine HB.out.mono ?_
  rintro e w2 ⟨T, cs, X, rfl, hT, hb2, hTw, hXw, hbw⟩
  have h2 : Whole w2 R 140 _ := (hb2.block R hlt).trans H.out
  have kf : w2.frozen? ⟨R, 3, none⟩ = false := h2.frozen 3
  have kc : w2.cell? ⟨R, 3, none⟩ = some x3 := h2.cell 3
  have kg : w2.frozen? ⟨R, 4, none⟩ = false := h2.frozen 4
  have kd : w2.cell? ⟨R, 4, none⟩ = some (.slice (some ⟨A, 0, none⟩) 6 cap) := h2.cell 4
  have H2 := Lib.hid h2
  have HT := Lib.hid hT
  have HB2 := Lib.hid hb2
  clear h2 hT hb2
  have HBW := Lib.hid hbw
  clear hbw
  go_wp2_with fail
  go_end0
  have h3 := (H2.out.set 3 (.iface 204 (.pointer (some ⟨T, 0, none⟩)))).set 4 (.slice none 0 0)
  have hne : R ≠ T := by omega
  have hnx : R ≠ X := by omega
  have hnb : ∀ c q, c < 256 → Lex.repB c = [92, q] → ∀ b cap, cs[c]? = some (.slice (some ⟨b, 0, none⟩) 2 cap) → b ≠ R := fun c q hc hq b cap hb => by
    have := HBW.out c q hc hq b cap hb; omega
  refine ⟨rfl, _, _, h3, T, cs, X, rfl, rfl, (HT.out.far hne hnx hnb 3 _).far hne hnx hnb 4 _, hne, hnx, hnb, ?_⟩
  exact ((Hb.out.trans (HB2.out.mono Hb.out.size)).setCell (p := ⟨R, 3, none⟩) hWR _).setCell (p := ⟨R, 4, none⟩) hWR _

theorem own_six {w : World} {B : Nat} {v : Value} (h : w.ownsRow B 9 1 v (0 + 6) ([] ++ Lex.six.map Value.string)) : ∃ g cap, v = .slice (some ⟨g, 0, none⟩) 6 cap ∧ Six w g ∧ B ≤ g := by
  rcases h.2 with ⟨_, h0⟩ | ⟨g, cap, cur, hv, hB, hc, _, _, _, htk⟩
  · omega
  · refine ⟨g, cap, hv, ⟨(Array.getElem?_eq_some_iff.1 hc).1, fun i s hs => ?_⟩, hB⟩
    have hw : Whole w g 9 cur := hc
    rw [hw.cell]
    have hi : i < 6 := by
      have := (List.getElem?_eq_some_iff.1 hs).1
      simpa [Lex.six] using this
    have h1 : (cur.toList.take ((0 + 6) * 1))[i]? = (Lex.six.map Value.string)[i]? := by rw [htk]; rfl
    rw [List.getElem?_take_of_lt (by omega), List.getElem?_map, hs] at h1
    rw [← Array.getElem?_toList]
    exact h1
theorem addr_add (A j : Nat) : Addr.add ⟨A, 0, none⟩ j = ⟨A, j, none⟩ := by cases j <;> simp [Addr.add]
theorem six_cell {W : World} {A j : Nat} {u : Value} (h : Six W A) (hu : (Lex.six.map Value.string)[j]? = some u) : W.cell? (Addr.add ⟨A, 0, none⟩ j) = some u := by
  rw [List.getElem?_map] at hu
  cases hs : Lex.six[j]? with
  | none => rw [hs] at hu; cases hu
  | some s =>
    rw [hs] at hu
    cases hu
    rw [addr_add]
    exact h.2 j s hs

set_option maxRecDepth 100000 in
set_option maxHeartbeats 1600000 in
theorem new_replacer (W : World) (A0 : Nat) (hA : Six W A0) : Calls Tryz.prog 68 #[.slice (some ⟨A0, 0, none⟩) 6 6] W fun e w' => ∃ R A cap x3, e = .returned (.pointer (some ⟨R, 0, none⟩)) ∧
    Whole w' R 140 #[.int .u32 0, .int .i32 0, .int .u32 0, x3, .slice (some ⟨A, 0, none⟩) 6 cap] ∧ Six w' A ∧ Below W.heap.size W w' ∧ W.heap.size ≤ R ∧ A ≠ R := by
  have HA := Lib.hid hA
  clear hA
  obtain ⟨i1, hi1⟩ : ∃ i, (Tryz.prog.info? 9) = some i := ⟨_, rfl⟩
  have hy0 : i1.zero = some (.string ⟨#[]⟩) := by
    have : (Tryz.prog.info? 9).bind (·.zero) = some (.string ⟨#[]⟩) := by kernel_rfl
    rw [hi1] at this; exact this
  have hy1 : i1.size = 1 := by
    have : (Tryz.prog.info? 9).map (·.size) = some 1 := by kernel_rfl
    rw [hi1] at this; exact Option.some.inj this
  have hy2 : i1.bytes = 16 := by
    have : (Tryz.prog.info? 9).map (·.bytes) = some 16 := by kernel_rfl
    rw [hi1] at this; exact Option.some.inj this
  go_enter Tryz.func68, Tryz.ntmps68
  go_wp2_with (at_builtin; go_loud (refine wpList_append_own _ rfl (.const (.slice none 0 0)) (.tmp 8) 41 rfl W.heap.size 9 i1 (.string ⟨#[]⟩) 1 16 Tryz.underlying41 hi1 hy0 hy1 hy2 rfl (by omega) (.slice none 0 0) 0 [] rfl (World.ownsRow_nil _ _ _ _) ⟨A0, 0, none⟩ 6 6 (Lex.six.map Value.string) rfl rfl (fun j u hu => six_cell HA.out hu) (by simp [Lex.six, Value.oneCell']) (by unfold maxLen; omega) (by omega) (Nat.le_refl _) ?_); intro v' w' hown hgr hnil; obtain ⟨g, cap, rfl, h6, hBg⟩ := own_six hown; have HO := Lib.hid h6; have HG := Lib.hid hgr; clear h6 hown hgr hnil)
  go_ret
  have hbl : Below W.heap.size W w' := ⟨HG.out.os, HG.out.tape, HG.out.output, HG.out.size, fun k hk => HG.out.block k hk (by simp [Value.ownBlock])⟩
  exact ⟨w'.heap.size, g, cap, _, rfl, Whole.new _ _ _, HO.out.below (Below.refl _ _ |>.alloc (Nat.le_refl _) _), hbl.alloc hbl.size _, hbl.size, by have := HO.out.1; omega⟩

set_option maxRecDepth 100000 in
set_option maxHeartbeats 1600000 in
theorem replace_any (W w : World) (R A cap : Nat) (x3 : Value) (S : ByteArray) (hS : S.size ≤ 100000000) (hWR : W.heap.size ≤ R) (h : Whole w R 140 #[.int .u32 0, .int .i32 0, .int .u32 0, x3, .slice (some ⟨A, 0, none⟩) 6 cap]) (hA : Six w A) (hAR : A ≠ R) (hb : Below W.heap.size W w) :
    Calls Tryz.prog 69 #[.pointer (some ⟨R, 0, none⟩), .string S] w fun e w' => e = .returned (.string ⟨(Lex.enc S.data.toList).toArray⟩) ∧ Below W.heap.size W w' := by
  have HD := Lib.hid (once_do R x3 (.slice (some ⟨A, 0, none⟩) 6 cap) (BuiltQ W R) (built_once hWR) w h (fun w1 hw1 => by
    subst hw1
    refine once_build W _ R A cap x3 hWR (h.set 1 _) ⟨by rw [World.size_setCell]; exact hA.1, fun i s hs => ?_⟩ (hb.setCell (p := ⟨R, 1, none⟩) hWR _)
    have e1 := Below.heap_setCell w ⟨R, 1, none⟩ (.int .i32 1) A hAR
    have := hA.2 i s hs
    simp only [World.cell?, e1] at this ⊢
    exact this))
  clear h hA hb
  go_enter Tryz.func69, Tryz.ntmps69
  go_wp2_with fail
  refine HD.out.mono ?_
  rintro e w2 ⟨rfl, y3, y4, hR, T, cs, X, rfl, rfl, hT, h1, h2, h3, hb⟩
  have kr : w2.cell? ⟨R, 3, none⟩ = some (.iface 204 (.pointer (some ⟨T, 0, none⟩))) := hR.cell 3
  have HT := Lib.hid hT
  have HB := Lib.hid hb
  clear hR hT hb h3
  go_wp2_with fail
  refine (bsr_any T X cs S hS w2 HT.out).mono ?_
  rintro e w3 ⟨rfl, hb3⟩
  replace hb3 := Lib.hid hb3
  go_wp2_with fail
  go_ret
  exact ⟨rfl, HB.out.trans (hb3.out.mono HB.out.size)⟩

set_option maxRecDepth 100000 in
set_option maxHeartbeats 1600000 in
theorem quote_any (S : ByteArray) (hS : S.size ≤ 100000000) (W : World) :
    Calls Tryz.prog 47 #[.string S] W fun e w' => e = .returned (.string ⟨(Lex.quote S.data.toList).toArray⟩) ∧ Below W.heap.size W w' := by
  go_enter Tryz.func47, Tryz.ntmps47
  go_wp2_with fail
  obtain ⟨w0, Hw0⟩ : ∃ x, Hid (x = W.alloc (.cells #[.string ⟨#[92]⟩, .string ⟨#[92, 92]⟩, .string ⟨#[34]⟩, .string ⟨#[92, 34]⟩, .string ⟨#[10]⟩, .string ⟨#[92, 110]⟩] 9)) := ⟨_, Lib.hid rfl⟩
  have H6 : Six w0 W.heap.size := by
    rw [Hw0.out]
    refine ⟨by rw [size_alloc]; omega, fun i s hs => ?_⟩
    refine (cell_new W _ _ _ i).trans ?_
    have e : (#[.string ⟨#[92]⟩, .string ⟨#[92, 92]⟩, .string ⟨#[34]⟩, .string ⟨#[92, 34]⟩, .string ⟨#[10]⟩, .string ⟨#[92, 110]⟩] : Array Value) = (Lex.six.map Value.string).toArray := rfl
    rw [e, List.getElem?_toArray, List.getElem?_map, hs]; rfl
  have HB0 : Hid (Below W.heap.size W w0) := Lib.hid (by rw [Hw0.out]; exact (Below.refl _ _).alloc (Nat.le_refl _) _)
  rw [← Hw0.out]
  refine (new_replacer w0 W.heap.size H6).mono ?_
  rintro e w1 ⟨R, A, cap, x3, rfl, hR, hA, hb, hWR, hAR⟩
  have hWR' := HB0.out.size
  have HR := Lib.hid (replace_any W w1 R A cap x3 S hS (by omega) hR hA hAR (HB0.out.trans (hb.mono HB0.out.size)))
  clear H6 hR hA hb hAR
  go_wp2_with fail
  refine HR.out.mono ?_
  rintro e w2 ⟨rfl, hb2⟩
  replace hb2 := Lib.hid hb2
  obtain ⟨X, HX⟩ : ∃ X : ByteArray, Hid (X = ⟨(Lex.enc S.data.toList).toArray⟩) := ⟨_, Lib.hid rfl⟩
  have hXs : X.size ≤ 200000000 := by
    have h1 := (Lex.enc_len S.data.toList).2
    have h2 : S.data.toList.length = S.size := rfl
    rw [HX.out]
    show (Lex.enc S.data.toList).toArray.size ≤ _
    rw [List.size_toArray]; omega
  rw [← HX.out]
  have hq1 : ¬ (9223372036854775807 < 1 + X.size) := by omega
  have hq2 : ¬ (9223372036854775807 < 1 + X.size + 1) := by omega
  go_wp2_with fail
  go_ret
  refine ⟨?_, hb2.out⟩
  rw [HX.out]
  have e : (⟨#[34]⟩ ++ ⟨(Lex.enc S.data.toList).toArray⟩ ++ ⟨#[34]⟩ : ByteArray) = ⟨(Lex.quote S.data.toList).toArray⟩ := by
    apply ByteArray.ext
    rw [ByteArray.data_append, ByteArray.data_append]
    apply Array.ext'
    simp [Lex.quote]
  rw [e]
  rfl

end Go.Proofs.YtfkejnnbfneieaaGreatDoor
