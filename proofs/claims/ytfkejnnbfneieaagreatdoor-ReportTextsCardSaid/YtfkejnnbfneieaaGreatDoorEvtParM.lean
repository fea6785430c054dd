/- event.Parse: values. What is parsed; a valid event is parsed from its text. -/
import Derived.Test.YtfkejnnbfneieaaGreatDoorEvtTextM
import Derived.Lib.Atoi
namespace Go.Proofs.YtfkejnnbfneieaaGreatDoor
open Go.RowKit
open Evt

namespace Evt
abbrev KT := Nat × List UInt8
def ktText (l : List KT) (i : Nat) : List UInt8 := ((l[i]?).map (·.2)).getD []
def ktN (t : KT) : Int := if t.1 = 2 then (Lib.atoi t.2).getD 0 else -1
def ktNum (l : List KT) (i : Nat) : Int := match l[i]? with | some t => ktN t | none => -1
def strOf (l : List UInt8) : ByteArray := ⟨l.toArray⟩
def opW (w : List UInt8) : Int := ((wordsL.findIdx? (· == w)).getD 0 : Nat)
def candT (l : List KT) : Ev :=
  let e : Ev := ⟨opW (ktText l 0), ktNum l 1, strOf (ktText l 2), emp, emp, emp, emp, emp, 0, 0, 0, 0, 0, 0⟩
  if e.op = 1 then { e with kind := strOf (ktText l 3) }
  else if e.op = 2 then { e with into := strOf (ktText l 3), slot := strOf (ktText l 4) }
  else if e.op = 4 then { e with k0 := ktNum l 3, k1 := ktNum l 4, c0 := ktNum l 5, c1 := ktNum l 6, d0 := ktNum l 7, d1 := ktNum l 8 }
  else if e.op = 6 then { e with key := strOf (ktText l 3), value := strOf (ktText l 4) }
  else e
def ktOf (l : List Lex.Tk) : List KT := l.map fun x => (x.1, x.2.1)
def candE (l : List Lex.Tk) : Ev := candT (ktOf l)
noncomputable def parseE (s : List UInt8) : Option Ev := match Lex.lex s with
  | .ok l => if 3 ≤ l.length ∧ valid (candE l) = true ∧ textE (candE l) = s then some (candE l) else none
  | .error _ => none
theorem parse_sound {s : List UInt8} {x : Ev} (h : parseE s = some x) : valid x = true ∧ textE x = s := by
  unfold parseE at h
  split at h
  · split at h
    · rename_i hc
      cases h
      exact ⟨hc.2.1, hc.2.2⟩
    · cases h
  · cases h
/-! ### Digits -/
theorem decFrom_cons (acc : Nat) (b : UInt8) (l : List UInt8) : Lib.decFrom acc (b :: l) = match Lib.digitVal b with | some d => Lib.decFrom (acc * 10 + d) l | none => none := rfl
theorem decFrom_app : ∀ (l r : List UInt8) (acc : Nat), Lib.decFrom acc (l ++ r) = (Lib.decFrom acc l).bind fun a => Lib.decFrom a r
  | [], r, acc => rfl
  | b :: l, r, acc => by
    rw [List.cons_append, decFrom_cons, decFrom_cons]
    cases Lib.digitVal b with
    | none => rfl
    | some d => exact decFrom_app l r _
theorem digit_val (n : Nat) (h : n < 10) : Lib.digitVal (UInt8.ofNat (48 + n)) = some n ∧ Lex.isDigit (UInt8.ofNat (48 + n)) = true := by
  have : n = 0 ∨ n = 1 ∨ n = 2 ∨ n = 3 ∨ n = 4 ∨ n = 5 ∨ n = 6 ∨ n = 7 ∨ n = 8 ∨ n = 9 := by omega
  rcases this with rfl | rfl | rfl | rfl | rfl | rfl | rfl | rfl | rfl | rfl <;> decide
theorem dec_good (n : Nat) : Lib.decDigits n ≠ [] ∧ (∀ c ∈ Lib.decDigits n, Lex.isDigit c = true) ∧ Lib.decFrom 0 (Lib.decDigits n) = some n := by
  induction n using Nat.strongRecOn with
  | ind n ih =>
    rw [Lib.decDigits]
    split
    · rename_i h
      refine ⟨by simp, fun c hc => by rw [List.mem_singleton.1 hc]; exact (digit_val n h).2, ?_⟩
      rw [decFrom_cons, (digit_val n h).1]
      simp [Lib.decFrom]
    · rename_i h
      obtain ⟨h1, h2, h3⟩ := ih (n / 10) (by omega)
      have hm : n % 10 < 10 := Nat.mod_lt _ (by decide)
      refine ⟨by simp, fun c hc => ?_, ?_⟩
      · rcases List.mem_append.1 hc with hc | hc
        · exact h2 c hc
        · rw [List.mem_singleton.1 hc]; exact (digit_val _ hm).2
      · rw [decFrom_app, h3]
        show Lib.decFrom (n / 10) [UInt8.ofNat (48 + n % 10)] = _
        rw [decFrom_cons, (digit_val _ hm).1]
        simp [Lib.decFrom]
        omega
theorem atoi_dec (n : Nat) : Lib.atoi (Lib.decDigits n) = some (n : Int) := by
  obtain ⟨h1, h2, h3⟩ := dec_good n
  cases hl : Lib.decDigits n with
  | nil => exact absurd hl h1
  | cons c r =>
    rw [hl] at h2 h3
    have hc := of_decide_eq_true (show decide _ = true from h2 c (by simp))
    have n1 : (c == 45) = false := by
      rw [beq_eq_false_iff_ne]; intro e; subst e; revert hc; decide
    have n2 : (c == 43) = false := by
      rw [beq_eq_false_iff_ne]; intro e; subst e; revert hc; decide
    simp only [Lib.atoi, n1, n2]
    unfold Lib.decNat
    simp [h3]
theorem dec_len7 (n : Nat) (h : n ≤ 1000000) : (Lib.decDigits n).length ≤ 7 := by
  have key : ∀ k n : Nat, n < 10 ^ (k + 1) → (Lib.decDigits n).length ≤ k + 1 := by
    intro k
    induction k with
    | zero =>
      intro n hn
      rw [Lib.decDigits, dif_pos (by simpa using hn)]
      simp
    | succ k ih =>
      intro n hn
      rw [Lib.decDigits]
      split
      · simp
      · rw [List.length_append]
        have := ih (n / 10) (by
          have : 10 ^ (k + 1 + 1) = 10 ^ (k + 1) * 10 := Nat.pow_succ _ _
          omega)
        simp
        omega
  exact key 6 n (by omega)
theorem dec_digits : ∀ (l : List UInt8) (acc : Nat), (∀ c ∈ l, Lex.isDigit c = true) → ∃ n, Lib.decFrom acc l = some n
  | [], acc, _ => ⟨acc, rfl⟩
  | b :: l, acc, h => by
    have hb := of_decide_eq_true (show decide _ = true from h b (by simp))
    obtain ⟨n, hn⟩ := dec_digits l (acc * 10 + (b.toNat - 48)) (fun c hc => h c (List.mem_cons_of_mem _ hc))
    refine ⟨n, ?_⟩
    rw [decFrom_cons]
    unfold Lib.digitVal
    rw [if_pos hb]
    exact hn
theorem atoi_digits {l : List UInt8} (h0 : l ≠ []) (h : ∀ c ∈ l, Lex.isDigit c = true) : ∃ n : Nat, Lib.atoi l = some (n : Int) := by
  cases l with
  | nil => exact absurd rfl h0
  | cons c r =>
    have hc := of_decide_eq_true (show decide _ = true from h c (by simp))
    have n1 : (c == 45) = false := by
      rw [beq_eq_false_iff_ne]; intro e; subst e; revert hc; decide
    have n2 : (c == 43) = false := by
      rw [beq_eq_false_iff_ne]; intro e; subst e; revert hc; decide
    obtain ⟨n, hn⟩ := dec_digits (c :: r) 0 h
    refine ⟨n, ?_⟩
    simp only [Lib.atoi, n1, n2]
    unfold Lib.decNat
    simp [hn]
/-- A token as the lexer makes it: if it is a number, its text is one. -/
def okT (x : KT) : Prop := x.1 = 2 → x.2.length ≤ 7 ∧ ∃ n : Nat, Lib.atoi x.2 = some (n : Int)
theorem tok_okT {c : UInt8} {r : List UInt8} {k : Nat} {t rest : List UInt8} (h : Lex.tok c r = .ok k t rest) : okT (k, t) := by
  intro hk
  dsimp only at hk
  subst hk
  unfold Lex.tok at h
  split at h
  · split at h
    · cases h
    · simp only [Lex.Res.ok.injEq] at h; omega
  · split at h
    · rename_i hd
      split at h
      · cases h
      · rename_i h7
        simp only [Lex.Res.ok.injEq] at h
        obtain ⟨_, rfl, _⟩ := h
        rw [not_or] at h7
        refine ⟨(show (c :: r.takeWhile Lex.isDigit).length ≤ 7 from by omega), atoi_digits (by simp) (fun x hx => ?_)⟩
        rcases List.mem_cons.1 hx with rfl | hx
        · exact hd
        · exact Lex.take_all Lex.isDigit r x hx
    · split at h
      · split at h
        · simp only [Lex.Res.ok.injEq] at h; omega
        · cases h
      · split at h
        · simp only [Lex.Res.ok.injEq] at h; omega
        · cases h
theorem lexF_okT : ∀ (f p n : Nat) (s : List UInt8) (l : List Lex.Tk), Lex.lexF f p n s = .ok l → ∀ x ∈ l, okT (x.1, x.2.1)
  | 0, _, _, _, l, h, x, hx => by cases h; cases hx
  | f + 1, p, n, s, l, h, x, hx => by
    unfold Lex.lexF at h
    cases hs : Lex.skip false s with
    | nil => rw [hs] at h; cases h; cases hx
    | cons c r =>
      rw [hs] at h
      dsimp only at h
      cases ht : Lex.tok c r with
      | err e => rw [ht] at h; cases h
      | ok k t rest =>
        rw [ht] at h
        dsimp only at h
        split at h
        · cases h
        · obtain ⟨y, h4, rfl⟩ := Lex.map_ok h
          rcases List.mem_cons.1 hx with rfl | hx
          · exact tok_okT ht
          · exact lexF_okT f _ _ _ _ h4 x hx
theorem lex_okT {s : List UInt8} {l : List Lex.Tk} (h : Lex.lex s = .ok l) : ∀ x ∈ l, okT (x.1, x.2.1) := lexF_okT _ _ _ _ _ h
/-! ### Tokens that are joined by blanks -/
def good (x : KT) : Prop := (x.1 = 1 ∧ Lex.nameB x.2 = true) ∨ (x.1 = 2 ∧ x.2 ≠ [] ∧ (∀ c ∈ x.2, Lex.isDigit c = true) ∧ x.2.length ≤ 7) ∨ x.1 = 3
theorem tok_num {c : UInt8} {r rest : List UInt8} (hd : ∀ x ∈ c :: r, Lex.isDigit x = true) (h7 : (c :: r).length ≤ 7) (hr : Lex.calm rest) : Lex.tok c (r ++ rest) = .ok 2 (c :: r) rest := by
  have hx := hd c (by simp)
  have hx1 : Lex.isLetter c = false := by
    have := of_decide_eq_true (show decide _ = true from hx)
    unfold Lex.isLetter
    rw [decide_eq_false_iff_not]
    omega
  have hw := Lex.take_of Lex.isDigit r rest (fun y hy => hd y (List.mem_cons_of_mem _ hy)) (Lex.calm_digit hr)
  unfold Lex.tok
  rw [if_neg (by rw [hx1]; decide), if_pos hx, hw.1, hw.2, if_neg]
  rw [not_or]
  exact ⟨by omega, by rw [Lex.wordAt_iff.2 hr]; decide⟩
theorem good_tok {x : KT} (h : good x) {rest : List UInt8} (hr : Lex.calm rest) : ∃ c r, Lex.written x.1 x.2 = c :: r ∧ Lex.isBlank c = false ∧ c.toNat ≠ 35 ∧ Lex.tok c (r ++ rest) = .ok x.1 x.2 rest := by
  obtain ⟨k, t⟩ := x
  rcases h with ⟨hk, hn⟩ | ⟨hk, h0, hd, h7⟩ | hk
  · dsimp only at hk hn ⊢
    subst hk
    cases t with
    | nil => simp [Lex.nameB] at hn
    | cons c r =>
      have hc : Lex.isLetter c = true := by unfold Lex.nameB at hn; simp only [Bool.and_eq_true] at hn; exact hn.2
      exact ⟨c, r, rfl, (Lex.letter_calm hc).1, (Lex.letter_calm hc).2, Lex.tok_name hn hr⟩
  · dsimp only at hk h0 hd h7 ⊢
    subst hk
    cases t with
    | nil => exact absurd rfl h0
    | cons c r =>
      have hx := of_decide_eq_true (show decide _ = true from hd c (by simp))
      refine ⟨c, r, rfl, ?_, by omega, tok_num hd h7 hr⟩
      unfold Lex.isBlank
      rw [decide_eq_false_iff_not]
      omega
  · dsimp only at hk ⊢
    subst hk
    refine ⟨34, Lex.enc t ++ [34], rfl, by decide, by decide, ?_⟩
    unfold Lex.tok
    rw [if_neg (by decide), if_neg (by decide), if_pos (by decide), List.append_assoc, List.singleton_append, Lex.strD_enc]
theorem lexF_blank (f p n : Nat) (u : List UInt8) : Lex.lexF (f + 1) p n (32 :: u) = Lex.lexF (f + 1) (p + 1) n u := by
  have hsk : Lex.skip false (32 :: u) = Lex.skip false u := by
    conv => lhs; unfold Lex.skip
    rw [if_pos (by decide)]
  unfold Lex.lexF
  rw [hsk]
  cases hs : Lex.skip false u with
  | nil => rfl
  | cons c r =>
    dsimp only
    have hl := Lex.skip_len false u
    rw [hs, List.length_cons] at hl
    have e1 : p + ((32 :: u).length - (r.length + 1)) = p + 1 + (u.length - (r.length + 1)) := by simp only [List.length_cons]; omega
    cases ht : Lex.tok c r with
    | err e => dsimp only; rw [e1]
    | ok k t rest =>
      dsimp only
      have h2 := Lex.tok_len ht
      have e2 : p + ((32 :: u).length - rest.length) = p + 1 + (u.length - rest.length) := by simp only [List.length_cons]; omega
      rw [e1, e2]
theorem lex_toks : ∀ (toks : List KT), (∀ x ∈ toks, good x) → ∀ (x : KT), good x → ∀ (f p n : Nat), toks.length + 2 ≤ f → n + toks.length + 1 ≤ 5000 →
    ∃ l, Lex.lexF f p n (Lib.join ((x :: toks).map fun t => Lex.written t.1 t.2) [32]) = .ok l ∧ ktOf l = x :: toks
  | [], _, x, hx, f, p, n, hf, hn => by
    obtain ⟨f, rfl⟩ : ∃ g, f = g + 1 := ⟨f - 1, by omega⟩
    obtain ⟨c, r, hw, hb, h35, ht⟩ := good_tok hx (rest := []) (fun c hc => by simp at hc)
    rw [List.map_cons, List.map_nil, Lib.join_one, hw]
    rw [List.append_nil] at ht
    rw [Lex.lexF_succ f p n c r hb h35 ht (by omega)]
    have h0 : ∀ f p n, Lex.lexF f p n [] = .ok [] := fun f p n => by cases f <;> rfl
    rw [h0]
    exact ⟨_, rfl, rfl⟩
  | y :: toks, hg, x, hx, f, p, n, hf, hn => by
    obtain ⟨f, rfl⟩ : ∃ g, f = g + 2 := ⟨f - 2, by simp at hf; omega⟩
    obtain ⟨c, r, hw, hb, h35, ht⟩ := good_tok hx (rest := 32 :: Lib.join ((y :: toks).map fun t => Lex.written t.1 t.2) [32]) (fun c hc => by simp at hc; subst hc; decide)
    have hj : Lib.join ((x :: y :: toks).map fun t => Lex.written t.1 t.2) [32] = c :: (r ++ 32 :: Lib.join ((y :: toks).map fun t => Lex.written t.1 t.2) [32]) := by
      rw [List.map_cons, List.map_cons, Lib.join_cons, hw, Lib.joinTail, List.map_cons, List.flatten_cons, Lib.join_cons, Lib.joinTail]
      simp
    rw [hj, Lex.lexF_succ (f + 1) p n c _ hb h35 ht (by omega), lexF_blank]
    obtain ⟨l, h1, h2⟩ := lex_toks toks (fun z hz => hg z (List.mem_cons_of_mem _ hz)) y (hg y (by simp)) (f + 1) _ (n + 1) (by simp at hf; omega) (by simp at hn; omega)
    rw [h1]
    exact ⟨_, rfl, by unfold ktOf at h2 ⊢; rw [List.map_cons, h2]⟩
/-! ### The tokens of an event's text -/
def toksE (e : Ev) : List KT :=
  [(2, digs e.day), (1, bts' e.part)] ++
    (if e.op = 1 then [(1, bts' e.kind)] else if e.op = 2 then [(1, bts' e.into), (1, bts' e.slot)]
     else if e.op = 4 then [(2, digs e.k0), (2, digs e.k1), (2, digs e.c0), (2, digs e.c1), (2, digs e.d0), (2, digs e.d1)]
     else if e.op = 6 then [(1, bts' e.key), (3, bts' e.value)] else [])
where bts' (s : ByteArray) : List UInt8 := s.data.toList
theorem rows_toks (e : Ev) : rowsE e = ((1, wordOf e.op) :: toksE e).map fun t => Lex.written t.1 t.2 := by
  unfold rowsE toksE toksE.bts'
  by_cases h1 : e.op = 1
  · rw [if_pos h1, if_pos h1]; rfl
  by_cases h2 : e.op = 2
  · rw [if_neg h1, if_pos h2, if_neg h1, if_pos h2]; rfl
  by_cases h4 : e.op = 4
  · rw [if_neg h1, if_neg h2, if_pos h4, if_neg h1, if_neg h2, if_pos h4]; rfl
  by_cases h6 : e.op = 6
  · rw [if_neg h1, if_neg h2, if_neg h4, if_pos h6, if_neg h1, if_neg h2, if_neg h4, if_pos h6]; rfl
  · rw [if_neg h1, if_neg h2, if_neg h4, if_neg h6, if_neg h1, if_neg h2, if_neg h4, if_neg h6]; rfl
theorem good_digs {z : Int} (h1 : z ≤ 1000000) : good (2, digs z) := by
  obtain ⟨a, b, _⟩ := dec_good z.toNat
  exact Or.inr (Or.inl ⟨rfl, a, b, dec_len7 _ (by omega)⟩)
theorem good_word {z : Int} (h1 : 1 ≤ z) (h2 : z ≤ 7) : good (1, wordOf z) := by
  refine Or.inl ⟨rfl, ?_⟩
  have : z = 1 ∨ z = 2 ∨ z = 3 ∨ z = 4 ∨ z = 5 ∨ z = 6 ∨ z = 7 := by omega
  rcases this with rfl | rfl | rfl | rfl | rfl | rfl | rfl <;> decide
theorem toks_good {e : Ev} (h : valid e = true) : ∀ x ∈ toksE e, good x := by
  obtain ⟨o1, o2, d1, d2, hp, -⟩ := valid_op h
  have hd : good (2, digs e.day) := good_digs (by omega)
  have hpp : good (1, toksE.bts' e.part) := Or.inl ⟨rfl, hp⟩
  intro x hx
  unfold toksE at hx
  rcases List.mem_append.1 hx with hx | hx
  · simp only [List.mem_cons, List.not_mem_nil, or_false] at hx
    rcases hx with rfl | rfl
    · exact hd
    · exact hpp
  by_cases h1 : e.op = 1
  · rw [if_pos h1] at hx
    rw [List.mem_singleton.1 hx]
    exact Or.inl ⟨rfl, ok1 h h1⟩
  by_cases h2 : e.op = 2
  · rw [if_neg h1, if_pos h2] at hx
    simp only [List.mem_cons, List.not_mem_nil, or_false] at hx
    rcases hx with rfl | rfl
    · exact Or.inl ⟨rfl, (ok2 h h2).1⟩
    · exact Or.inl ⟨rfl, (ok2 h h2).2⟩
  by_cases h4 : e.op = 4
  · rw [if_neg h1, if_neg h2, if_pos h4] at hx
    obtain ⟨a, b, c⟩ := ok4 h h4
    simp only [List.mem_cons, List.not_mem_nil, or_false] at hx
    rcases hx with rfl | rfl | rfl | rfl | rfl | rfl <;> exact good_digs (by omega)
  by_cases h6 : e.op = 6
  · rw [if_neg h1, if_neg h2, if_neg h4, if_pos h6] at hx
    simp only [List.mem_cons, List.not_mem_nil, or_false] at hx
    rcases hx with rfl | rfl
    · exact Or.inl ⟨rfl, (ok6 h h6).1⟩
    · exact Or.inr (Or.inr rfl)
  · rw [if_neg h1, if_neg h2, if_neg h4, if_neg h6] at hx
    cases hx
theorem opW_word {z : Int} (h1 : 1 ≤ z) (h2 : z ≤ 7) : opW (wordOf z) = z := by
  have : z = 1 ∨ z = 2 ∨ z = 3 ∨ z = 4 ∨ z = 5 ∨ z = 6 ∨ z = 7 := by omega
  rcases this with rfl | rfl | rfl | rfl | rfl | rfl | rfl <;> rfl
theorem num_digs {l : List KT} {i : Nat} {z : Int} (hz : 0 ≤ z) (h : l[i]? = some (2, digs z)) : ktNum l i = z := by
  unfold ktNum
  rw [h]
  dsimp only
  unfold ktN
  rw [if_pos rfl]
  unfold digs
  rw [atoi_dec]
  simp only [Option.getD_some]
  omega
theorem str_back (s : ByteArray) : strOf s.data.toList = s := by unfold strOf; cases s; simp
theorem valid_rest {e : Ev} (h : valid e = true) : restOf e = zero := by
  unfold valid at h
  simp only [Bool.and_eq_true] at h
  exact evEq_iff.1 h.2.2.2.2.2.2
theorem cand_toks {e : Ev} (h : valid e = true) : candT ((1, wordOf e.op) :: toksE e) = e := by
  obtain ⟨o1, o2, d1, d2, -, -⟩ := valid_op h
  have hr := valid_rest h
  have e0 : ktText ((1, wordOf e.op) :: toksE e) 0 = wordOf e.op := rfl
  have e1 : ktNum ((1, wordOf e.op) :: toksE e) 1 = e.day := num_digs d1 rfl
  have e2 : strOf (ktText ((1, wordOf e.op) :: toksE e) 2) = e.part := str_back e.part
  unfold candT
  rw [e0, e1, e2, opW_word o1 o2]
  dsimp only
  by_cases h1 : e.op = 1
  · rw [if_pos h1]
    have e3 : strOf (ktText ((1, wordOf e.op) :: toksE e) 3) = e.kind := by
      have : ktText ((1, wordOf e.op) :: toksE e) 3 = e.kind.data.toList := by unfold toksE; rw [if_pos h1]; rfl
      rw [this, str_back]
    rw [e3]
    unfold restOf at hr
    rw [if_pos h1] at hr
    obtain ⟨x0, x1, x2, x3, x4, x5, x6, x7, x8, x9, xa, xb, xc, xd⟩ := e
    simp only [zero, Ev.mk.injEq] at hr ⊢
    simp_all [emp]
  by_cases h2 : e.op = 2
  · rw [if_neg h1, if_pos h2]
    have e3 : strOf (ktText ((1, wordOf e.op) :: toksE e) 3) = e.into := by
      have : ktText ((1, wordOf e.op) :: toksE e) 3 = e.into.data.toList := by unfold toksE; rw [if_neg h1, if_pos h2]; rfl
      rw [this, str_back]
    have e4 : strOf (ktText ((1, wordOf e.op) :: toksE e) 4) = e.slot := by
      have : ktText ((1, wordOf e.op) :: toksE e) 4 = e.slot.data.toList := by unfold toksE; rw [if_neg h1, if_pos h2]; rfl
      rw [this, str_back]
    rw [e3, e4]
    unfold restOf at hr
    rw [if_neg h1, if_pos h2] at hr
    obtain ⟨x0, x1, x2, x3, x4, x5, x6, x7, x8, x9, xa, xb, xc, xd⟩ := e
    simp only [zero, Ev.mk.injEq] at hr ⊢
    simp_all [emp]
  by_cases h4 : e.op = 4
  · rw [if_neg h1, if_neg h2, if_pos h4]
    obtain ⟨a, b, c⟩ := ok4 h h4
    have at4 : ∀ i z, [(2, digs e.k0), (2, digs e.k1), (2, digs e.c0), (2, digs e.c1), (2, digs e.d0), (2, digs e.d1)][i]? = some (2, digs z) → 0 ≤ z → ktNum ((1, wordOf e.op) :: toksE e) (3 + i) = z := by
      intro i z hi hz
      refine num_digs hz ?_
      unfold toksE
      rw [if_neg h1, if_neg h2, if_pos h4]
      have : (1, wordOf e.op) :: ([(2, digs e.day), (1, toksE.bts' e.part)] ++ [(2, digs e.k0), (2, digs e.k1), (2, digs e.c0), (2, digs e.c1), (2, digs e.d0), (2, digs e.d1)]) = [(1, wordOf e.op), (2, digs e.day), (1, toksE.bts' e.part)] ++ [(2, digs e.k0), (2, digs e.k1), (2, digs e.c0), (2, digs e.c1), (2, digs e.d0), (2, digs e.d1)] := rfl
      rw [this, List.getElem?_append_right (by simp)]
      simpa using hi
    rw [at4 0 e.k0 rfl (by omega), at4 1 e.k1 rfl (by omega), at4 2 e.c0 rfl (by omega), at4 3 e.c1 rfl (by omega), at4 4 e.d0 rfl (by omega), at4 5 e.d1 rfl (by omega)]
    unfold restOf at hr
    rw [if_neg h1, if_neg h2, if_pos h4] at hr
    obtain ⟨x0, x1, x2, x3, x4, x5, x6, x7, x8, x9, xa, xb, xc, xd⟩ := e
    simp only [zero, Ev.mk.injEq] at hr ⊢
    simp_all [emp]
  by_cases h6 : e.op = 6
  · rw [if_neg h1, if_neg h2, if_neg h4, if_pos h6]
    have e3 : strOf (ktText ((1, wordOf e.op) :: toksE e) 3) = e.key := by
      have : ktText ((1, wordOf e.op) :: toksE e) 3 = e.key.data.toList := by unfold toksE; rw [if_neg h1, if_neg h2, if_neg h4, if_pos h6]; rfl
      rw [this, str_back]
    have e4 : strOf (ktText ((1, wordOf e.op) :: toksE e) 4) = e.value := by
      have : ktText ((1, wordOf e.op) :: toksE e) 4 = e.value.data.toList := by unfold toksE; rw [if_neg h1, if_neg h2, if_neg h4, if_pos h6]; rfl
      rw [this, str_back]
    rw [e3, e4]
    unfold restOf at hr
    rw [if_neg h1, if_neg h2, if_neg h4, if_pos h6] at hr
    obtain ⟨x0, x1, x2, x3, x4, x5, x6, x7, x8, x9, xa, xb, xc, xd⟩ := e
    simp only [zero, Ev.mk.injEq] at hr ⊢
    simp_all [emp]
  · rw [if_neg h1, if_neg h2, if_neg h4, if_neg h6]
    unfold restOf at hr
    rw [if_neg h1, if_neg h2, if_neg h4, if_neg h6] at hr
    obtain ⟨x0, x1, x2, x3, x4, x5, x6, x7, x8, x9, xa, xb, xc, xd⟩ := e
    simp only [zero, Ev.mk.injEq] at hr ⊢
    simp_all [emp]
theorem parse_text {e : Ev} (h : valid e = true) : parseE (textE e) = some e := by
  obtain ⟨o1, o2, -⟩ := valid_op h
  have ht : textE e = Lib.join (((1, wordOf e.op) :: toksE e).map fun t => Lex.written t.1 t.2) [32] := by unfold textE; rw [rows_toks]
  have hl : (toksE e).length ≤ 8 ∧ 2 ≤ (toksE e).length := by
    unfold toksE
    split
    · simp
    · split
      · simp
      · split
        · simp
        · split <;> simp
  obtain ⟨l, h1, h2⟩ := lex_toks (toksE e) (toks_good h) (1, wordOf e.op) (good_word o1 o2) ((textE e).length + 1 + 20) 0 0 (by omega) (by omega)
  rw [← ht] at h1
  have hlex : Lex.lex (textE e) = .ok l := by
    unfold Lex.lex
    rw [Lex.lexF_fuel ((textE e).length + 1) ((textE e).length + 1 + 20) 0 0 (textE e) (by omega) (by omega), h1]
  have hc : candE l = e := by unfold candE; rw [h2, cand_toks h]
  have hll : 3 ≤ l.length := by
    have : (ktOf l).length = l.length := by unfold ktOf; simp
    rw [← this, h2, List.length_cons]
    omega
  unfold parseE
  rw [hlex]
  dsimp only
  rw [hc, if_pos ⟨hll, h, rfl⟩]
theorem text_inj {a b : Ev} (ha : valid a = true) (hb : valid b = true) (h : textE a = textE b) : a = b := by
  have h1 := parse_text ha
  rw [h, parse_text hb] at h1
  exact (Option.some.inj h1).symm
end Evt
end Go.Proofs.YtfkejnnbfneieaaGreatDoor
