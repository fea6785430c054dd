/- The tokens of a text, as values: what a text's tokens are, and what the document promises of them. -/
import Derived.ProofKit
namespace Go.Proofs.YtfkejnnbfneieaaGreatDoor
namespace Lex

def isLetter (c : UInt8) : Bool := decide ((97 ≤ c.toNat ∧ c.toNat ≤ 122) ∨ (65 ≤ c.toNat ∧ c.toNat ≤ 90))
def isDigit (c : UInt8) : Bool := decide (48 ≤ c.toNat ∧ c.toNat ≤ 57)
def isWord (c : UInt8) : Bool := isLetter c || isDigit c || decide (c.toNat = 95)
def isBlank (c : UInt8) : Bool := decide (c.toNat = 32 ∨ c.toNat = 9 ∨ c.toNat = 10)
def isSym (c : UInt8) : Bool := decide (c.toNat ∈ [59, 44, 46, 58, 40, 41, 123, 125, 91, 93, 61, 60, 62, 47, 43, 45, 42])

/-- What is left behind the gaps at the beginning; true: inside a comment. -/
def skip : Bool → List UInt8 → List UInt8
  | _, [] => []
  | false, c :: r => if isBlank c then skip false r else if c.toNat = 35 then skip true r else c :: r
  | true, c :: r => if c.toNat = 10 then skip false r else skip true r

/-- A string behind its first quote: what it stands for, and what is left behind it. -/
def strD : List UInt8 → Option (List UInt8 × List UInt8)
  | [] => none
  | c :: r =>
    if c.toNat = 34 then some ([], r)
    else if c.toNat = 10 then none
    else if c.toNat = 92 then
      match r with
      | [] => none
      | e :: r' => if e.toNat = 92 ∨ e.toNat = 34 then (strD r').map fun x => (e :: x.1, x.2) else if e.toNat = 110 then (strD r').map fun x => (10 :: x.1, x.2) else none
    else (strD r).map fun x => (c :: x.1, x.2)

inductive Res where
  | ok (kind : Nat) (text rest : List UInt8)
  | err (e : Nat)

def calm (l : List UInt8) : Prop := ∀ c, l.head? = some c → isWord c = false
def wordAt (l : List UInt8) : Bool := match l with | [] => false | c :: _ => isWord c

def tok (c : UInt8) (r : List UInt8) : Res :=
  if isLetter c then if 24 < (c :: r.takeWhile isWord).length then .err 7 else .ok 1 (c :: r.takeWhile isWord) (r.dropWhile isWord)
  else if isDigit c then if 7 < (c :: r.takeWhile isDigit).length ∨ wordAt (r.dropWhile isDigit) = true then .err 11 else .ok 2 (c :: r.takeWhile isDigit) (r.dropWhile isDigit)
  else if c.toNat = 34 then match strD r with | some x => .ok 3 x.1 x.2 | none => .err 10
  else if isSym c then .ok 4 [c] r
  else .err 10

abbrev Tk := Nat × List UInt8 × Nat

/-- The tokens of a text from an offset on, n tokens standing before; f: fuel. -/
def lexF : Nat → Nat → Nat → List UInt8 → Except (Nat × Nat) (List Tk)
  | 0, _, _, _ => .ok []
  | f + 1, p, n, s =>
    match skip false s with
    | [] => .ok []
    | c :: r =>
      match tok c r with
      | .err e => .error (e, p + (s.length - (r.length + 1)))
      | .ok k t rest =>
        if n = 5000 then .error (7, p + (s.length - (r.length + 1)))
        else (lexF f (p + (s.length - rest.length)) (n + 1) rest).map fun l => (k, t, p + (s.length - (r.length + 1))) :: l

def lex (s : List UInt8) : Except (Nat × Nat) (List Tk) := lexF (s.length + 1) 0 0 s

/-! ### Lengths -/
theorem skip_len (b : Bool) (s : List UInt8) : (skip b s).length ≤ s.length := by
  induction s generalizing b with
  | nil => cases b <;> simp [skip]
  | cons c r ih =>
    cases b
    · unfold skip
      split
      · exact Nat.le_succ_of_le (ih _)
      · split
        · exact Nat.le_succ_of_le (ih _)
        · exact Nat.le_refl _
    · unfold skip
      split <;> exact Nat.le_succ_of_le (ih _)
theorem strD_parts : ∀ (r : List UInt8) (x : List UInt8 × List UInt8), strD r = some x → ∃ body, r = body ++ 34 :: x.2 ∧ ∀ rest, strD (body ++ 34 :: rest) = some (x.1, rest)
  | [], x, h => by simp [strD] at h
  | c :: r, x, h => by
    unfold strD at h
    by_cases h1 : c.toNat = 34
    · rw [if_pos h1] at h
      obtain rfl := Option.some.inj h
      have hc : c = 34 := UInt8.toNat_inj.1 h1
      subst hc
      exact ⟨[], rfl, fun rest => by rw [List.nil_append]; unfold strD; exact if_pos rfl⟩
    · rw [if_neg h1] at h
      by_cases h2 : c.toNat = 10
      · rw [if_pos h2] at h; cases h
      · rw [if_neg h2] at h
        by_cases h3 : c.toNat = 92
        · rw [if_pos h3] at h
          match r, h with
          | [], h => cases h
          | e :: r', h =>
            by_cases h4 : e.toNat = 92 ∨ e.toNat = 34
            · simp only [if_pos h4] at h
              obtain ⟨y, hy, rfl⟩ := Option.map_eq_some_iff.1 h
              obtain ⟨body, h5, h6⟩ := strD_parts r' y hy
              refine ⟨c :: e :: body, by rw [h5]; rfl, fun rest => ?_⟩
              simp only [List.cons_append]
              unfold strD
              rw [if_neg h1, if_neg h2, if_pos h3]
              simp only [if_pos h4, h6, Option.map_some]
            · simp only [if_neg h4] at h
              by_cases h7 : e.toNat = 110
              · simp only [if_pos h7] at h
                obtain ⟨y, hy, rfl⟩ := Option.map_eq_some_iff.1 h
                obtain ⟨body, h5, h6⟩ := strD_parts r' y hy
                refine ⟨c :: e :: body, by rw [h5]; rfl, fun rest => ?_⟩
                simp only [List.cons_append]
                unfold strD
                rw [if_neg h1, if_neg h2, if_pos h3]
                simp only [if_neg h4, if_pos h7, h6, Option.map_some]
              · simp only [if_neg h7] at h
                cases h
        · rw [if_neg h3] at h
          obtain ⟨y, hy, rfl⟩ := Option.map_eq_some_iff.1 h
          obtain ⟨body, h5, h6⟩ := strD_parts r y hy
          refine ⟨c :: body, by rw [h5]; rfl, fun rest => ?_⟩
          simp only [List.cons_append]
          unfold strD
          rw [if_neg h1, if_neg h2, if_neg h3, h6]
          rfl

theorem take_drop (p : UInt8 → Bool) (r : List UInt8) : r.takeWhile p ++ r.dropWhile p = r := List.takeWhile_append_dropWhile
theorem drop_calm (p : UInt8 → Bool) (r : List UInt8) : ∀ c, (r.dropWhile p).head? = some c → p c = false := by
  induction r with
  | nil => intro c h; simp at h
  | cons a r ih =>
    intro c h
    rw [List.dropWhile_cons] at h
    split at h
    · exact ih c h
    · simp only [List.head?_cons, Option.some.injEq] at h
      subst h
      exact Bool.eq_false_iff.2 ‹_›
theorem take_all (p : UInt8 → Bool) (r : List UInt8) : ∀ c ∈ r.takeWhile p, p c = true := fun c h => by
  induction r with
  | nil => simp at h
  | cons a r ih =>
    rw [List.takeWhile_cons] at h
    split at h
    · rcases List.mem_cons.1 h with rfl | h
      · assumption
      · exact ih h
    · simp at h
theorem take_of (p : UInt8 → Bool) : ∀ (w rest : List UInt8), (∀ c ∈ w, p c = true) → (∀ c, rest.head? = some c → p c = false) → (w ++ rest).takeWhile p = w ∧ (w ++ rest).dropWhile p = rest
  | [], rest, _, h => by
    cases rest with
    | nil => simp
    | cons c r => have := h c rfl; simp [this]
  | a :: w, rest, hw, h => by
    have ha := hw a (by simp)
    have ih := take_of p w rest (fun c hc => hw c (List.mem_cons_of_mem _ hc)) h
    simp [ha, ih.1, ih.2]
theorem wordAt_iff {l : List UInt8} : wordAt l = false ↔ calm l := by
  unfold wordAt calm
  cases l with
  | nil => simp
  | cons c r => simp
theorem digit_word {c : UInt8} (h : isDigit c = true) : isWord c = true := by unfold isWord; rw [h]; simp
theorem calm_digit {l : List UInt8} (h : calm l) : ∀ c, l.head? = some c → isDigit c = false := fun c hc => by
  cases hd : isDigit c with
  | false => rfl
  | true => have := digit_word hd; rw [h c hc] at this; cases this

/-- What a token stands on, and that only what directly follows it matters. -/
theorem tok_ok {c : UInt8} {r : List UInt8} {k : Nat} {t rest : List UInt8} (h : tok c r = .ok k t rest) :
    ∃ body, r = body ++ rest ∧ ((k = 1 ∨ k = 2) → calm rest) ∧ ∀ rest', ((k = 1 ∨ k = 2) → calm rest') → tok c (body ++ rest') = .ok k t rest' := by
  unfold tok at h
  by_cases h1 : isLetter c = true
  · rw [if_pos h1] at h
    by_cases h2 : 24 < (c :: r.takeWhile isWord).length
    · rw [if_pos h2] at h; cases h
    · rw [if_neg h2] at h
      simp only [Res.ok.injEq] at h
      obtain ⟨rfl, rfl, rfl⟩ := h
      refine ⟨r.takeWhile isWord, (take_drop isWord r).symm, fun _ => drop_calm isWord r, fun rest' hr => ?_⟩
      have := take_of isWord _ rest' (take_all isWord r) (hr (Or.inl rfl))
      unfold tok
      rw [if_pos h1, this.1, this.2, if_neg h2]
  · rw [if_neg h1] at h
    by_cases h2 : isDigit c = true
    · rw [if_pos h2] at h
      by_cases h3 : 7 < (c :: r.takeWhile isDigit).length ∨ wordAt (r.dropWhile isDigit) = true
      · rw [if_pos h3] at h; cases h
      · rw [if_neg h3] at h
        simp only [Res.ok.injEq] at h
        obtain ⟨rfl, rfl, rfl⟩ := h
        rw [not_or] at h3
        refine ⟨r.takeWhile isDigit, (take_drop isDigit r).symm, fun _ => wordAt_iff.1 (by simpa using h3.2), fun rest' hr => ?_⟩
        have hc := hr (Or.inr rfl)
        have := take_of isDigit _ rest' (take_all isDigit r) (calm_digit hc)
        unfold tok
        rw [if_neg h1, if_pos h2, this.1, this.2, if_neg]
        rw [not_or]
        exact ⟨h3.1, by rw [wordAt_iff.2 hc]; decide⟩
    · rw [if_neg h2] at h
      by_cases h3 : c.toNat = 34
      · rw [if_pos h3] at h
        cases hx : strD r with
        | none => rw [hx] at h; cases h
        | some x =>
          rw [hx] at h
          simp only [Res.ok.injEq] at h
          obtain ⟨rfl, rfl, rfl⟩ := h
          obtain ⟨body, h4, h5⟩ := strD_parts r x hx
          refine ⟨body ++ [34], by rw [h4]; simp, fun hk => by omega, fun rest' _ => ?_⟩
          unfold tok
          rw [if_neg h1, if_neg h2, if_pos h3, List.append_assoc]
          simp only [List.cons_append, List.nil_append, h5]
      · rw [if_neg h3] at h
        by_cases h4 : isSym c = true
        · rw [if_pos h4] at h
          simp only [Res.ok.injEq] at h
          obtain ⟨rfl, rfl, rfl⟩ := h
          refine ⟨[], rfl, fun hk => by omega, fun rest' _ => ?_⟩
          unfold tok
          rw [if_neg h1, if_neg h2, if_neg h3, if_pos h4]
          rfl
        · rw [if_neg h4] at h; cases h

theorem tok_len {c : UInt8} {r : List UInt8} {k : Nat} {t rest : List UInt8} (h : tok c r = .ok k t rest) : rest.length ≤ r.length := by
  obtain ⟨body, rfl, _⟩ := tok_ok h
  simp

/-! ### Fuel and count make no difference -/
theorem lexF_fuel : ∀ (f g p n : Nat) (s : List UInt8), s.length < f → s.length < g → lexF f p n s = lexF g p n s
  | 0, _, _, _, s, h, _ => absurd h (Nat.not_lt_zero _)
  | _ + 1, 0, _, _, s, _, h => absurd h (Nat.not_lt_zero _)
  | f + 1, g + 1, p, n, s, hf, hg => by
    unfold lexF
    cases hs : skip false s with
    | nil => rfl
    | cons c r =>
      dsimp only
      cases ht : tok c r with
      | err e => rfl
      | ok k t rest =>
        dsimp only
        have h1 := skip_len false s
        rw [hs, List.length_cons] at h1
        have h2 := tok_len ht
        rw [lexF_fuel f g _ _ rest (by omega) (by omega)]
theorem lexF_count : ∀ (f p n m : Nat) (s : List UInt8), n + s.length ≤ 5000 → m + s.length ≤ 5000 → lexF f p n s = lexF f p m s
  | 0, _, _, _, _, _, _ => rfl
  | f + 1, p, n, m, s, hn, hm => by
    unfold lexF
    cases hs : skip false s with
    | nil => rfl
    | cons c r =>
      dsimp only
      cases ht : tok c r with
      | err e => rfl
      | ok k t rest =>
        dsimp only
        have h1 := skip_len false s
        rw [hs, List.length_cons] at h1
        have h2 := tok_len ht
        rw [if_neg (by omega), if_neg (by omega), lexF_count f _ (n + 1) (m + 1) rest (by omega) (by omega)]


/-! ### How tokens are written -/
def encC (c : UInt8) : List UInt8 := if c.toNat = 92 then [92, 92] else if c.toNat = 34 then [92, 34] else if c.toNat = 10 then [92, 110] else [c]
def enc (t : List UInt8) : List UInt8 := t.flatMap encC
def quote (t : List UInt8) : List UInt8 := 34 :: (enc t ++ [34])
def written (k : Nat) (t : List UInt8) : List UInt8 := if k = 3 then quote t else t
theorem enc_cons (c : UInt8) (t : List UInt8) : enc (c :: t) = encC c ++ enc t := rfl
theorem strD_enc (t rest : List UInt8) : strD (enc t ++ 34 :: rest) = some (t, rest) := by
  induction t with
  | nil => show strD (34 :: rest) = _; unfold strD; exact if_pos rfl
  | cons c t ih =>
    rw [enc_cons, List.append_assoc]
    unfold encC
    by_cases h1 : c.toNat = 92
    · rw [if_pos h1]
      have hc : c = 92 := UInt8.toNat_inj.1 h1
      subst hc
      show strD (92 :: 92 :: (enc t ++ 34 :: rest)) = _
      unfold strD
      rw [if_neg (by decide), if_neg (by decide), if_pos (by decide)]
      simp only [if_pos (show (92 : UInt8).toNat = 92 ∨ (92 : UInt8).toNat = 34 by decide), ih, Option.map_some]
    · rw [if_neg h1]
      by_cases h2 : c.toNat = 34
      · rw [if_pos h2]
        have hc : c = 34 := UInt8.toNat_inj.1 h2
        subst hc
        show strD (92 :: 34 :: (enc t ++ 34 :: rest)) = _
        unfold strD
        rw [if_neg (by decide), if_neg (by decide), if_pos (by decide)]
        simp only [if_pos (show (34 : UInt8).toNat = 92 ∨ (34 : UInt8).toNat = 34 by decide), ih, Option.map_some]
      · rw [if_neg h2]
        by_cases h3 : c.toNat = 10
        · rw [if_pos h3]
          have hc : c = 10 := UInt8.toNat_inj.1 h3
          subst hc
          show strD (92 :: 110 :: (enc t ++ 34 :: rest)) = _
          unfold strD
          rw [if_neg (by decide), if_neg (by decide), if_pos (by decide)]
          simp only [if_neg (show ¬ ((110 : UInt8).toNat = 92 ∨ (110 : UInt8).toNat = 34) by decide), if_pos (show (110 : UInt8).toNat = 110 by decide), ih, Option.map_some]
        · rw [if_neg h3]
          show strD (c :: (enc t ++ 34 :: rest)) = _
          unfold strD
          rw [if_neg h2, if_neg h3, if_neg h1, ih]
          rfl
theorem strD_canon : ∀ (r : List UInt8) (x : List UInt8 × List UInt8), strD r = some x → r = enc x.1 ++ 34 :: x.2
  | [], x, h => by simp [strD] at h
  | c :: r, x, h => by
    unfold strD at h
    by_cases h1 : c.toNat = 34
    · rw [if_pos h1] at h
      obtain rfl := Option.some.inj h
      have hc : c = 34 := UInt8.toNat_inj.1 h1
      subst hc
      rfl
    · rw [if_neg h1] at h
      by_cases h2 : c.toNat = 10
      · rw [if_pos h2] at h; cases h
      · rw [if_neg h2] at h
        by_cases h3 : c.toNat = 92
        · rw [if_pos h3] at h
          have hc : c = 92 := UInt8.toNat_inj.1 h3
          subst hc
          match r, h with
          | [], h => cases h
          | e :: r', h =>
            by_cases h4 : e.toNat = 92 ∨ e.toNat = 34
            · simp only [if_pos h4] at h
              obtain ⟨y, hy, rfl⟩ := Option.map_eq_some_iff.1 h
              have h5 := strD_canon r' y hy
              rw [h5, enc_cons, List.append_assoc]
              rcases h4 with h4 | h4
              · obtain rfl : e = 92 := UInt8.toNat_inj.1 h4
                rfl
              · obtain rfl : e = 34 := UInt8.toNat_inj.1 h4
                rfl
            · simp only [if_neg h4] at h
              by_cases h7 : e.toNat = 110
              · simp only [if_pos h7] at h
                obtain ⟨y, hy, rfl⟩ := Option.map_eq_some_iff.1 h
                have h5 := strD_canon r' y hy
                obtain rfl : e = 110 := UInt8.toNat_inj.1 h7
                rw [h5, enc_cons, List.append_assoc]
                rfl
              · simp only [if_neg h7] at h
                cases h
        · rw [if_neg h3] at h
          obtain ⟨y, hy, rfl⟩ := Option.map_eq_some_iff.1 h
          have h5 := strD_canon r y hy
          rw [h5, enc_cons, List.append_assoc]
          unfold encC
          rw [if_neg h3, if_neg h1, if_neg h2]
          rfl
theorem enc_inj {s t : List UInt8} (h : enc s = enc t) : s = t := by
  have h1 := strD_enc s []
  rw [h, strD_enc t []] at h1
  simpa using h1.symm
theorem quote_inj {s t : List UInt8} (h : quote s = quote t) : s = t := by
  unfold quote at h
  simp only [List.cons.injEq, true_and] at h
  exact enc_inj (List.append_cancel_right h)

/-- A token stands as it is written; only what directly follows it matters. -/
theorem tok_written {c : UInt8} {r : List UInt8} {k : Nat} {t rest : List UInt8} (h : tok c r = .ok k t rest) :
    ∃ body, r = body ++ rest ∧ written k t = c :: body ∧ ((k = 1 ∨ k = 2) → calm rest) ∧ (∀ rest', ((k = 1 ∨ k = 2) → calm rest') → tok c (body ++ rest') = .ok k t rest') ∧ (k = 1 ∨ k = 2 ∨ k = 3 ∨ k = 4) := by
  obtain ⟨body, h1, h2, h3⟩ := tok_ok h
  refine ⟨body, h1, ?_, h2, h3, ?_⟩
  · have h0 := h
    unfold tok at h
    by_cases g1 : isLetter c = true
    · rw [if_pos g1] at h
      split at h
      · cases h
      · simp only [Res.ok.injEq] at h
        obtain ⟨rfl, rfl, rfl⟩ := h
        have e : r.takeWhile isWord ++ r.dropWhile isWord = body ++ r.dropWhile isWord := (take_drop isWord r).trans h1
        rw [← List.append_cancel_right e]; rfl
    · rw [if_neg g1] at h
      by_cases g2 : isDigit c = true
      · rw [if_pos g2] at h
        split at h
        · cases h
        · simp only [Res.ok.injEq] at h
          obtain ⟨rfl, rfl, rfl⟩ := h
          have e : r.takeWhile isDigit ++ r.dropWhile isDigit = body ++ r.dropWhile isDigit := (take_drop isDigit r).trans h1
          rw [← List.append_cancel_right e]; rfl
      · rw [if_neg g2] at h
        by_cases g3 : c.toNat = 34
        · rw [if_pos g3] at h
          cases hx : strD r with
          | none => rw [hx] at h; cases h
          | some x =>
            rw [hx] at h
            simp only [Res.ok.injEq] at h
            obtain ⟨rfl, rfl, rfl⟩ := h
            have e : r = (enc x.1 ++ [34]) ++ x.2 := by rw [strD_canon r x hx]; simp
            rw [← List.append_cancel_right (e.symm.trans h1)]
            obtain rfl : c = 34 := UInt8.toNat_inj.1 g3
            rfl
        · rw [if_neg g3] at h
          split at h
          · simp only [Res.ok.injEq] at h
            obtain ⟨rfl, rfl, rfl⟩ := h
            have : body = [] := by
              have := congrArg List.length h1
              simp at this
              exact this
            rw [this]; rfl
          · cases h
  · unfold tok at h
    split at h
    · split at h
      · cases h
      · simp only [Res.ok.injEq] at h; omega
    · split at h
      · split at h
        · cases h
        · simp only [Res.ok.injEq] at h; omega
      · split at h
        · split at h
          · simp only [Res.ok.injEq] at h; omega
          · cases h
        · split at h
          · simp only [Res.ok.injEq] at h; omega
          · cases h

/-- What stands ahead of a token. -/
theorem skip_parts : ∀ (b : Bool) (s : List UInt8) (c : UInt8) (r : List UInt8), skip b s = c :: r →
    ∃ g, s = g ++ c :: r ∧ skip b g = [] ∧ (∀ x : List UInt8, skip b (g ++ x) = skip false x) ∧ isBlank c = false ∧ c.toNat ≠ 35
  | b, [], c, r, h => by cases b <;> simp [skip] at h
  | false, a :: s, c, r, h => by
    unfold skip at h
    by_cases h1 : isBlank a = true
    · rw [if_pos h1] at h
      obtain ⟨g, h2, h3, h4, h5⟩ := skip_parts false s c r h
      refine ⟨a :: g, by rw [h2]; rfl, ?_, fun x => ?_, h5⟩
      · unfold skip; rw [if_pos h1]; exact h3
      · rw [List.cons_append]; conv => lhs; unfold skip
        rw [if_pos h1]; exact h4 x
    · rw [if_neg h1] at h
      by_cases h2 : a.toNat = 35
      · rw [if_pos h2] at h
        obtain ⟨g, h3, h4, h5, h6⟩ := skip_parts true s c r h
        refine ⟨a :: g, by rw [h3]; rfl, ?_, fun x => ?_, h6⟩
        · unfold skip; rw [if_neg h1, if_pos h2]; exact h4
        · rw [List.cons_append]; conv => lhs; unfold skip
          rw [if_neg h1, if_pos h2]; exact h5 x
      · rw [if_neg h2] at h
        simp only [List.cons.injEq] at h
        obtain ⟨rfl, rfl⟩ := h
        exact ⟨[], rfl, rfl, fun x => rfl, by simpa using h1, h2⟩
  | true, a :: s, c, r, h => by
    unfold skip at h
    by_cases h1 : a.toNat = 10
    · rw [if_pos h1] at h
      obtain ⟨g, h2, h3, h4, h5⟩ := skip_parts false s c r h
      refine ⟨a :: g, by rw [h2]; rfl, ?_, fun x => ?_, h5⟩
      · unfold skip; rw [if_pos h1]; exact h3
      · rw [List.cons_append]; conv => lhs; unfold skip
        rw [if_pos h1]; exact h4 x
    · rw [if_neg h1] at h
      obtain ⟨g, h3, h4, h5, h6⟩ := skip_parts true s c r h
      refine ⟨a :: g, by rw [h3]; rfl, ?_, fun x => ?_, h6⟩
      · unfold skip; rw [if_neg h1]; exact h4
      · rw [List.cons_append]; conv => lhs; unfold skip
        rw [if_neg h1]; exact h5 x
theorem skip_at {c : UInt8} (h1 : isBlank c = false) (h2 : c.toNat ≠ 35) (r : List UInt8) : skip false (c :: r) = c :: r := by
  unfold skip
  rw [if_neg (by rw [h1]; decide), if_neg h2]
theorem skip_f (c : UInt8) (r : List UInt8) : skip false (c :: r) = if isBlank c then skip false r else if c.toNat = 35 then skip true r else c :: r := rfl
theorem skip_t (c : UInt8) (r : List UInt8) : skip true (c :: r) = if c.toNat = 10 then skip false r else skip true r := rfl
theorem skip_nl (b : Bool) (u v : List UInt8) : skip b (u ++ 10 :: v) = if skip b u = [] then skip false v else skip b u ++ 10 :: v := by
  induction u generalizing b with
  | nil =>
    rw [if_pos (by cases b <;> rfl), List.nil_append]
    cases b
    · rw [skip_f, if_pos (by decide)]
    · rw [skip_t, if_pos (by decide)]
  | cons c u ih =>
    rw [List.cons_append]
    cases b
    · rw [skip_f, skip_f]
      by_cases h1 : isBlank c = true
      · rw [if_pos h1, if_pos h1]; exact ih false
      · rw [if_neg h1, if_neg h1]
        by_cases h2 : c.toNat = 35
        · rw [if_pos h2, if_pos h2]; exact ih true
        · rw [if_neg h2, if_neg h2, if_neg (by simp)]; rfl
    · rw [skip_t, skip_t]
      by_cases h1 : c.toNat = 10
      · rw [if_pos h1, if_pos h1]; exact ih false
      · rw [if_neg h1, if_neg h1]; exact ih true
theorem strD_nl : ∀ (r v : List UInt8), strD r = none → strD (r ++ 10 :: v) = none
  | [], v, _ => by show strD (10 :: v) = none; unfold strD; rw [if_neg (by decide), if_pos (by decide)]
  | c :: r, v, h => by
    rw [List.cons_append]
    unfold strD at h ⊢
    by_cases h1 : c.toNat = 34
    · rw [if_pos h1] at h; cases h
    · rw [if_neg h1] at h ⊢
      by_cases h2 : c.toNat = 10
      · rw [if_pos h2]
      · rw [if_neg h2] at h ⊢
        by_cases h3 : c.toNat = 92
        · rw [if_pos h3] at h ⊢
          match r, h with
          | [], h =>
            simp only [List.nil_append]
            rw [if_neg (by decide), if_neg (by decide)]
          | e :: r', h =>
            simp only [List.cons_append]
            by_cases h4 : e.toNat = 92 ∨ e.toNat = 34
            · simp only [if_pos h4] at h ⊢
              rw [strD_nl r' v (by simpa using h)]; rfl
            · simp only [if_neg h4] at h ⊢
              by_cases h5 : e.toNat = 110
              · simp only [if_pos h5] at h ⊢
                rw [strD_nl r' v (by simpa using h)]; rfl
              · simp only [if_neg h5]
        · rw [if_neg h3] at h ⊢
          rw [strD_nl r v (by simpa using h)]; rfl
theorem take_nl (p : UInt8 → Bool) (hp : p 10 = false) (r v : List UInt8) : (r ++ 10 :: v).takeWhile p = r.takeWhile p ∧ (r ++ 10 :: v).dropWhile p = r.dropWhile p ++ 10 :: v := by
  have e : r ++ 10 :: v = r.takeWhile p ++ (r.dropWhile p ++ 10 :: v) := by rw [← List.append_assoc, take_drop]
  rw [e]
  refine take_of p _ _ (take_all p r) fun c hc => ?_
  cases hd : r.dropWhile p with
  | nil => rw [hd] at hc; simp at hc; rw [← hc]; exact hp
  | cons a l =>
    rw [hd] at hc
    have := drop_calm p r a (by rw [hd]; rfl)
    simp at hc
    rw [← hc]; exact this
theorem calm_nl {l : List UInt8} (h : calm l) (v : List UInt8) : calm (l ++ 10 :: v) := fun c hc => by
  cases l with
  | nil => simp at hc; subst hc; decide
  | cons a l => exact h c (by simpa using hc)
theorem wordAt_nl (l v : List UInt8) : wordAt (l ++ 10 :: v) = wordAt l := by
  cases l with
  | nil => show isWord 10 = false; decide
  | cons a l => rfl
theorem tok_nl (c : UInt8) (r v : List UInt8) : tok c (r ++ 10 :: v) = match tok c r with | .ok k t rest => .ok k t (rest ++ 10 :: v) | .err e => .err e := by
  cases h : tok c r with
  | ok k t rest =>
    obtain ⟨body, h1, h2, h3⟩ := tok_ok h
    rw [h1, List.append_assoc]
    exact h3 _ fun hk => calm_nl (h2 hk) v
  | err e =>
    show tok c (r ++ 10 :: v) = .err e
    unfold tok at h ⊢
    rw [(take_nl isWord (by decide) r v).1, (take_nl isWord (by decide) r v).2, (take_nl isDigit (by decide) r v).1, (take_nl isDigit (by decide) r v).2, wordAt_nl]
    split at h
    · rename_i g; rw [if_pos g]
      split at h
      · rename_i g; rw [if_pos g]; exact h
      · cases h
    · rename_i g; rw [if_neg g]
      split at h
      · rename_i g; rw [if_pos g]
        split at h
        · rename_i g; rw [if_pos g]; exact h
        · cases h
      · rename_i g; rw [if_neg g]
        split at h
        · rename_i g; rw [if_pos g]
          cases hs : strD r with
          | some x => rw [hs] at h; cases h
          | none => rw [strD_nl r v hs]; rw [hs] at h; exact h
        · rename_i g; rw [if_neg g]
          split at h
          · cases h
          · rename_i g; rw [if_neg g]; exact h

/-- Two texts with a line feed between them. -/
theorem lexF_nl : ∀ (f p n : Nat) (u v : List UInt8), u.length + v.length + 1 < f → n + u.length + v.length + 1 ≤ 5000 →
    lexF f p n (u ++ 10 :: v) = match lexF f p n u with | .error x => .error x | .ok a => (lexF f (p + u.length + 1) n v).map (a ++ ·)
  | 0, _, _, u, v, h, _ => absurd h (Nat.not_lt_zero _)
  | f + 1, p, n, u, v, hf, hn => by
    have hl := skip_len false u
    unfold lexF
    rw [skip_nl]
    cases hs : skip false u with
    | nil =>
      rw [if_pos rfl]
      dsimp only
      have hv := skip_len false v
      cases hsv : skip false v with
      | nil => rfl
      | cons c r =>
        rw [hsv, List.length_cons] at hv
        dsimp only
        have e1 : p + ((u ++ 10 :: v).length - (r.length + 1)) = p + u.length + 1 + (v.length - (r.length + 1)) := by simp only [List.length_append, List.length_cons]; omega
        cases ht : tok c r with
        | err e => dsimp only; rw [e1]; rfl
        | ok k t rest =>
          have h2 := tok_len ht
          have e2 : p + ((u ++ 10 :: v).length - rest.length) = p + u.length + 1 + (v.length - rest.length) := by simp only [List.length_append, List.length_cons]; omega
          dsimp only
          rw [e1, e2]
          split
          · rfl
          · cases lexF f (p + u.length + 1 + (v.length - rest.length)) (n + 1) rest <;> rfl
    | cons c r =>
      rw [hs, List.length_cons] at hl
      rw [if_neg (by simp), List.cons_append]
      dsimp only
      rw [tok_nl]
      have e1 : p + ((u ++ 10 :: v).length - ((r ++ 10 :: v).length + 1)) = p + (u.length - (r.length + 1)) := by simp only [List.length_append, List.length_cons]; omega
      cases ht : tok c r with
      | err e => dsimp only; rw [e1]
      | ok k t rest =>
        have h2 := tok_len ht
        dsimp only
        rw [e1, if_neg (by omega), if_neg (by omega)]
        have e2 : p + ((u ++ 10 :: v).length - (rest ++ 10 :: v).length) = p + (u.length - rest.length) := by simp only [List.length_append, List.length_cons]; omega
        rw [e2, lexF_nl f _ (n + 1) rest v (by omega) (by omega)]
        have e3 : p + (u.length - rest.length) + rest.length + 1 = p + u.length + 1 := by omega
        rw [e3]
        cases lexF f (p + (u.length - rest.length)) (n + 1) rest with
        | error x => rfl
        | ok a =>
          dsimp only
          have e4 : lexF f (p + u.length + 1) (n + 1) v = lexF (f + 1) (p + u.length + 1) n v := by
            rw [lexF_count f _ (n + 1) n v (by omega) (by omega)]
            exact lexF_fuel _ _ _ _ _ (by omega) (by omega)
          show Except.map _ (Except.map _ (lexF f (p + u.length + 1) (n + 1) v)) = Except.map _ (lexF (f + 1) (p + u.length + 1) n v)
          rw [e4]
          cases lexF (f + 1) (p + u.length + 1) n v <;> rfl


/-! ### Where the tokens stand -/
/-- The tokens stand in the text as they are written, with gaps alone before, between and behind them. -/
inductive Laid : Nat → List UInt8 → List Tk → Prop
  | nil (p : Nat) (s : List UInt8) (h : skip false s = []) : Laid p s []
  | cons (p : Nat) (g w rest : List UInt8) (k : Nat) (t : List UInt8) (l : List Tk) (hg : skip false g = []) (hw : w = written k t) (hn : w ≠ []) (h : Laid (p + g.length + w.length) rest l) : Laid p (g ++ (w ++ rest)) ((k, t, p + g.length) :: l)
theorem map_ok {α β : Type} {f : α → β} {e : Except (Nat × Nat) α} {y : β} (h : e.map f = .ok y) : ∃ x, e = .ok x ∧ y = f x := by
  cases e with
  | error x => cases h
  | ok x => exact ⟨x, rfl, by injection h with h; exact h.symm⟩
theorem map_err {α β : Type} {f : α → β} {e : Except (Nat × Nat) α} {y : Nat × Nat} (h : e.map f = .error y) : e = .error y := by
  cases e with
  | error x => injection h with h; rw [h]
  | ok x => cases h
theorem lexF_laid : ∀ (f p n : Nat) (s : List UInt8) (l : List Tk), s.length < f → lexF f p n s = .ok l → Laid p s l
  | 0, _, _, s, _, h, _ => absurd h (Nat.not_lt_zero _)
  | f + 1, p, n, s, l, hf, h => by
    unfold lexF at h
    cases hs : skip false s with
    | nil =>
      rw [hs] at h
      injection h with h
      subst h
      exact .nil p s hs
    | cons c r =>
      rw [hs] at h
      dsimp only at h
      obtain ⟨g, h1, h2, _⟩ := skip_parts false s c r hs
      cases ht : tok c r with
      | err e => rw [ht] at h; cases h
      | ok k t rest =>
        rw [ht] at h
        dsimp only at h
        split at h
        · cases h
        · obtain ⟨x, h3, rfl⟩ := map_ok h
          obtain ⟨body, h4, h5, _⟩ := tok_written ht
          have hl := tok_len ht
          have e0 : s.length = g.length + (r.length + 1) := by rw [h1]; simp
          have e1 : p + (s.length - (r.length + 1)) = p + g.length := by omega
          have e2 : p + (s.length - rest.length) = p + g.length + (c :: body).length := by
            have : r.length = body.length + rest.length := by rw [h4]; simp
            simp only [List.length_cons]; omega
          rw [e1, h1, h4]
          rw [e2] at h3
          have := Laid.cons p g (c :: body) rest k t x h2 h5.symm (by simp) (lexF_laid f _ _ rest x (by omega) h3)
          simpa using this

/-! ### The written tokens, with a blank behind each -/
def wrote (l : List Tk) : List UInt8 := l.flatMap fun x => written x.1 x.2.1 ++ [32]
def alike (a b : List Tk) : Prop := a.map (fun x => (x.1, x.2.1)) = b.map (fun x => (x.1, x.2.1))
theorem calm_blank (l : List UInt8) : calm (32 :: l) := fun c hc => by
  simp at hc; subst hc; decide
theorem lexF_wrote : ∀ (f p n : Nat) (s : List UInt8) (l : List Tk), s.length < f → lexF f p n s = .ok l → ∀ (g q m : Nat), (wrote l).length < g → m + (wrote l).length ≤ 5000 → ∃ l', lexF g q m (wrote l) = .ok l' ∧ alike l l'
  | 0, _, _, s, _, h, _, _, _, _, _, _ => absurd h (Nat.not_lt_zero _)
  | f + 1, p, n, s, l, hf, h, g, q, m, hg, hm => by
    unfold lexF at h
    cases hs : skip false s with
    | nil =>
      rw [hs] at h
      injection h with h
      subst h
      refine ⟨[], ?_, rfl⟩
      cases g with
      | zero => rfl
      | succ g => rfl
    | cons c r =>
      rw [hs] at h
      dsimp only at h
      obtain ⟨_, _, _, _, hb1, hb2⟩ := skip_parts false s c r hs
      have hsl := skip_len false s
      rw [hs, List.length_cons] at hsl
      cases ht : tok c r with
      | err e => rw [ht] at h; cases h
      | ok k t rest =>
        rw [ht] at h
        dsimp only at h
        split at h
        · cases h
        · obtain ⟨x, h3, rfl⟩ := map_ok h
          obtain ⟨body, h4, h5, _, h6, _⟩ := tok_written ht
          have hl := tok_len ht
          have e : wrote ((k, t, p + (s.length - (r.length + 1))) :: x) = c :: (body ++ 32 :: wrote x) := by
            show written k t ++ [32] ++ wrote x = _
            rw [h5]; simp
          rw [e] at hg hm ⊢
          simp only [List.length_cons, List.length_append] at hg hm
          cases g with
          | zero => omega
          | succ g =>
            obtain ⟨l', h7, h8⟩ := lexF_wrote f _ _ rest x (by omega) h3 g (q + ((c :: (body ++ 32 :: wrote x)).length - (wrote x).length)) (m + 1) (by omega) (by omega)
            refine ⟨(k, t, q + ((c :: (body ++ 32 :: wrote x)).length - ((body ++ 32 :: wrote x).length + 1))) :: l', ?_, ?_⟩
            · unfold lexF
              rw [skip_at hb1 hb2]
              dsimp only
              rw [h6 (32 :: wrote x) fun _ => calm_blank _]
              dsimp only
              rw [if_neg (by omega)]
              cases g with
              | zero => omega
              | succ g =>
                have e2 : lexF (g + 1) (q + ((c :: (body ++ 32 :: wrote x)).length - (32 :: wrote x).length)) (m + 1) (32 :: wrote x) = lexF (g + 1) (q + ((c :: (body ++ 32 :: wrote x)).length - (wrote x).length)) (m + 1) (wrote x) := by
                  unfold lexF
                  rw [show skip false (32 :: wrote x) = skip false (wrote x) from by rw [skip_f, if_pos (by decide)]]
                  have hk := skip_len false (wrote x)
                  cases hsk : skip false (wrote x) with
                  | nil => rfl
                  | cons c' r' =>
                    rw [hsk, List.length_cons] at hk
                    dsimp only
                    have q1 : q + ((c :: (body ++ 32 :: wrote x)).length - (32 :: wrote x).length) + ((32 :: wrote x).length - (r'.length + 1)) = q + ((c :: (body ++ 32 :: wrote x)).length - (wrote x).length) + ((wrote x).length - (r'.length + 1)) := by
                      simp only [List.length_cons, List.length_append]; omega
                    cases ht' : tok c' r' with
                    | err e => dsimp only; rw [q1]
                    | ok k' t' rest' =>
                      have := tok_len ht'
                      have q2 : q + ((c :: (body ++ 32 :: wrote x)).length - (32 :: wrote x).length) + ((32 :: wrote x).length - rest'.length) = q + ((c :: (body ++ 32 :: wrote x)).length - (wrote x).length) + ((wrote x).length - rest'.length) := by
                        simp only [List.length_cons, List.length_append]; omega
                      dsimp only
                      rw [q1, q2]
                rw [e2, h7]
                rfl
            · unfold alike at h8 ⊢
              simp only [List.map_cons, h8]

/-! ### A text with an error -/
theorem calm_take {l : List UInt8} (h : calm l) (j : Nat) : calm (l.take j) := fun c hc => by
  cases l with
  | nil => simp at hc
  | cons a l =>
    cases j with
    | zero => simp at hc
    | succ j => exact h c (by simpa using hc)
theorem lexF_begin : ∀ (f p n : Nat) (s : List UInt8) (e q : Nat), s.length < f → n + s.length ≤ 5000 → lexF f p n s = .error (e, q) →
    p ≤ q ∧ q - p < s.length ∧ (∃ l, lexF f p n (s.take (q - p)) = .ok l) ∧ ∀ (g p' m : Nat), 0 < g → m < 5000 → lexF g p' m (s.drop (q - p)) = .error (e, p')
  | 0, _, _, s, _, _, h, _, _ => absurd h (Nat.not_lt_zero _)
  | f + 1, p, n, s, e, q, hf, hn, h => by
    unfold lexF at h
    cases hs : skip false s with
    | nil => rw [hs] at h; cases h
    | cons c r =>
      rw [hs] at h
      dsimp only at h
      obtain ⟨g0, h1, h2, h3, hb1, hb2⟩ := skip_parts false s c r hs
      have e0 : s.length = g0.length + (r.length + 1) := by rw [h1]; simp
      have e1 : p + (s.length - (r.length + 1)) = p + g0.length := by omega
      cases ht : tok c r with
      | err e' =>
        rw [ht] at h
        dsimp only at h
        rw [e1] at h
        simp only [Except.error.injEq, Prod.mk.injEq] at h
        obtain ⟨rfl, rfl⟩ := h
        have e2 : p + g0.length - p = g0.length := by omega
        rw [e2]
        refine ⟨by omega, by omega, ⟨[], ?_⟩, fun g p' m hg hm => ?_⟩
        · have : s.take g0.length = g0 := by rw [h1]; simp
          rw [this]
          unfold lexF
          rw [h2]
        · have : s.drop g0.length = c :: r := by rw [h1]; simp
          rw [this]
          cases g with
          | zero => omega
          | succ g =>
            unfold lexF
            rw [skip_at hb1 hb2]
            dsimp only
            rw [ht]
            simp
      | ok k t rest =>
        rw [ht] at h
        dsimp only at h
        rw [if_neg (by omega)] at h
        obtain ⟨body, h4, h5, hcalm, h6, _⟩ := tok_written ht
        have hl : r.length = body.length + rest.length := by rw [h4]; simp
        have h7 := map_err h
        have e3 : p + (s.length - rest.length) = p + g0.length + 1 + body.length := by omega
        rw [e3] at h7
        obtain ⟨h8, h9, ⟨l, h10⟩, h11⟩ := lexF_begin f _ (n + 1) rest e q (by omega) (by omega) h7
        have es : s = (g0 ++ c :: body) ++ rest := by rw [h1, h4]; simp
        have elen : (g0 ++ c :: body).length = g0.length + 1 + body.length := by simp; omega
        refine ⟨by omega, by omega, ?_, ?_⟩
        · have et : s.take (q - p) = g0 ++ c :: (body ++ rest.take (q - (p + g0.length + 1 + body.length))) := by
            rw [es, List.take_append, List.take_of_length_le (by omega), elen]
            have : q - p - (g0.length + 1 + body.length) = q - (p + g0.length + 1 + body.length) := by omega
            rw [this]; simp
          obtain ⟨R, hR⟩ : ∃ R, R = rest.take (q - (p + g0.length + 1 + body.length)) := ⟨_, rfl⟩
          rw [et, ← hR]
          rw [← hR] at h10
          have hRl : R.length ≤ rest.length := by rw [hR, List.length_take]; omega
          refine ⟨(k, t, p + g0.length) :: l, ?_⟩
          unfold lexF
          rw [h3, skip_at hb1 hb2]
          dsimp only
          rw [h6 R fun hk => by rw [hR]; exact calm_take (hcalm hk) _]
          dsimp only
          rw [if_neg (by omega)]
          have q1 : p + ((g0 ++ c :: (body ++ R)).length - ((body ++ R).length + 1)) = p + g0.length := by simp only [List.length_append, List.length_cons]; omega
          have q2 : p + ((g0 ++ c :: (body ++ R)).length - R.length) = p + g0.length + 1 + body.length := by simp only [List.length_append, List.length_cons]; omega
          rw [q1, q2, h10]
          rfl
        · have ed : s.drop (q - p) = rest.drop (q - (p + g0.length + 1 + body.length)) := by
            rw [es, List.drop_append, List.drop_eq_nil_of_le (by omega), elen]
            have : q - p - (g0.length + 1 + body.length) = q - (p + g0.length + 1 + body.length) := by omega
            rw [this]; simp
          rw [ed]
          exact h11


/-! ### Further along -/
theorem lexF_shift : ∀ (f p d n : Nat) (s : List UInt8), lexF f (p + d) n s = match lexF f p n s with | .error x => .error (x.1, x.2 + d) | .ok l => .ok (l.map fun x => (x.1, x.2.1, x.2.2 + d))
  | 0, _, _, _, _ => rfl
  | f + 1, p, d, n, s => by
    unfold lexF
    cases hs : skip false s with
    | nil => rfl
    | cons c r =>
      dsimp only
      cases ht : tok c r with
      | err e => dsimp only; rw [show p + d + (s.length - (r.length + 1)) = p + (s.length - (r.length + 1)) + d by omega]
      | ok k t rest =>
        dsimp only
        rw [show p + d + (s.length - (r.length + 1)) = p + (s.length - (r.length + 1)) + d by omega, show p + d + (s.length - rest.length) = p + (s.length - rest.length) + d by omega]
        split
        · rfl
        · rw [lexF_shift f]
          cases lexF f (p + (s.length - rest.length)) (n + 1) rest <;> rfl

/-! ### Gaps put in -/
theorem skip_both {G : List UInt8} (h : skip false G = []) : skip true G = [] := by
  induction G with
  | nil => rfl
  | cons c r ih =>
    rw [skip_f] at h
    rw [skip_t]
    by_cases h1 : isBlank c = true
    · rw [if_pos h1] at h
      split
      · exact h
      · exact ih h
    · rw [if_neg h1] at h
      have h10 : ¬ c.toNat = 10 := fun hc => h1 (by unfold isBlank; rw [decide_eq_true]; exact Or.inr (Or.inr hc))
      rw [if_neg h10]
      split at h
      · exact h
      · cases h
theorem skip_end {G : List UInt8} (h : skip false G = []) : ∀ (b : Bool) (u : List UInt8), skip b u = [] → skip b (u ++ G) = []
  | true, [], _ => skip_both h
  | false, [], _ => h
  | false, c :: u, hu => by
    rw [skip_f] at hu
    rw [List.cons_append, skip_f]
    by_cases h1 : isBlank c = true
    · rw [if_pos h1] at hu ⊢; exact skip_end h false u hu
    · rw [if_neg h1] at hu ⊢
      by_cases h2 : c.toNat = 35
      · rw [if_pos h2] at hu ⊢; exact skip_end h true u hu
      · rw [if_neg h2] at hu; cases hu
  | true, c :: u, hu => by
    rw [skip_t] at hu
    rw [List.cons_append, skip_t]
    by_cases h1 : c.toNat = 10
    · rw [if_pos h1] at hu ⊢; exact skip_end h false u hu
    · rw [if_neg h1] at hu ⊢; exact skip_end h true u hu
theorem gap_calm {G : List UInt8} (h : skip false G = []) : calm G := fun c hc => by
  cases G with
  | nil => simp at hc
  | cons a r =>
    simp at hc
    subst hc
    rw [skip_f] at h
    by_cases h1 : isBlank a = true
    · unfold isBlank at h1
      have h1 := of_decide_eq_true h1
      unfold isWord isLetter isDigit
      simp only [Bool.or_eq_false_iff, decide_eq_false_iff_not]
      omega
    · rw [if_neg h1] at h
      by_cases h2 : a.toNat = 35
      · unfold isWord isLetter isDigit
        simp only [Bool.or_eq_false_iff, decide_eq_false_iff_not]
        omega
      · rw [if_neg h2] at h; cases h
theorem calm_app {l G : List UInt8} (h : calm l) (hG : calm G) : calm (l ++ G) := fun c hc => by
  cases l with
  | nil => exact hG c hc
  | cons a l => exact h c (by simpa using hc)
theorem lexF_gap {G : List UInt8} (hG : skip false G = []) : ∀ (f p n : Nat) (u : List UInt8) (l : List Tk), u.length < f → lexF f p n u = .ok l → lexF f p n (u ++ G) = .ok l
  | 0, _, _, s, _, h, _ => absurd h (Nat.not_lt_zero _)
  | f + 1, p, n, u, l, hf, h => by
    have h0 := h
    unfold lexF at h
    cases hs : skip false u with
    | nil =>
      rw [hs] at h
      unfold lexF
      rw [skip_end hG false u hs]
      exact h
    | cons c r =>
      rw [hs] at h
      dsimp only at h
      obtain ⟨g0, h1, h2, h3, hb1, hb2⟩ := skip_parts false u c r hs
      cases ht : tok c r with
      | err e => rw [ht] at h; cases h
      | ok k t rest =>
        rw [ht] at h
        dsimp only at h
        split at h
        · cases h
        · rename_i hn
          obtain ⟨x, h4, rfl⟩ := map_ok h
          obtain ⟨body, h5, h6, hcalm, h7, _⟩ := tok_written ht
          have hl : r.length = body.length + rest.length := by rw [h5]; simp
          have e0 : u.length = g0.length + (r.length + 1) := by rw [h1]; simp
          have eu : u ++ G = g0 ++ c :: (body ++ (rest ++ G)) := by rw [h1, h5]; simp
          unfold lexF
          rw [eu, h3, skip_at hb1 hb2]
          dsimp only
          rw [h7 (rest ++ G) fun hk => calm_app (hcalm hk) (gap_calm hG)]
          dsimp only
          rw [if_neg hn]
          have q1 : p + ((g0 ++ c :: (body ++ (rest ++ G))).length - ((body ++ (rest ++ G)).length + 1)) = p + (u.length - (r.length + 1)) := by simp only [List.length_append, List.length_cons]; omega
          have q2 : p + ((g0 ++ c :: (body ++ (rest ++ G))).length - (rest ++ G).length) = p + (u.length - rest.length) := by simp only [List.length_append, List.length_cons]; omega
          rw [q1, q2, lexF_gap hG f _ _ rest x (by omega) h4]
          rfl
/-- A text that is cut behind one of its tokens. -/
theorem lexF_cut : ∀ (f p n : Nat) (s : List UInt8) (l : List Tk), s.length < f → n + s.length ≤ 5000 → lexF f p n s = .ok l → ∀ (j : Nat) (k : Nat) (t : List UInt8) (a : Nat), l[j]? = some (k, t, a) →
    p ≤ a ∧ a - p + (written k t).length ≤ s.length ∧ lexF f p n (s.take (a - p + (written k t).length)) = .ok (l.take (j + 1)) ∧ lexF f (a + (written k t).length) n (s.drop (a - p + (written k t).length)) = .ok (l.drop (j + 1))
  | 0, _, _, s, _, h, _, _, _, _, _, _, _ => absurd h (Nat.not_lt_zero _)
  | f + 1, p, n, s, l, hf, hn, h, j, k, t, a, hj => by
    unfold lexF at h
    cases hs : skip false s with
    | nil =>
      rw [hs] at h
      injection h with h
      subst h
      simp at hj
    | cons c r =>
      rw [hs] at h
      dsimp only at h
      obtain ⟨g0, h1, h2, h3, hb1, hb2⟩ := skip_parts false s c r hs
      cases ht : tok c r with
      | err e => rw [ht] at h; cases h
      | ok k0 t0 rest =>
        rw [ht] at h
        dsimp only at h
        rw [if_neg (by
          have := skip_len false s
          rw [hs, List.length_cons] at this
          omega)] at h
        obtain ⟨x, h4, rfl⟩ := map_ok h
        obtain ⟨body, h5, h6, hcalm, h7, _⟩ := tok_written ht
        have hl : r.length = body.length + rest.length := by rw [h5]; simp
        have e0 : s.length = g0.length + (r.length + 1) := by rw [h1]; simp
        have es : s = (g0 ++ c :: body) ++ rest := by rw [h1, h5]; simp
        have elen : (g0 ++ c :: body).length = g0.length + 1 + body.length := by simp; omega
        have step : ∀ R : List UInt8, R.length ≤ rest.length → ((k0 = 1 ∨ k0 = 2) → calm R) → ∀ y, lexF f (p + (s.length - rest.length)) (n + 1) R = .ok y → lexF (f + 1) p n (g0 ++ c :: (body ++ R)) = .ok ((k0, t0, p + (s.length - (r.length + 1))) :: y) := by
          intro R hRl hR y hy
          unfold lexF
          rw [h3, skip_at hb1 hb2]
          dsimp only
          rw [h7 R hR]
          dsimp only
          rw [if_neg (by omega)]
          have q1 : p + ((g0 ++ c :: (body ++ R)).length - ((body ++ R).length + 1)) = p + (s.length - (r.length + 1)) := by simp only [List.length_append, List.length_cons]; omega
          have q2 : p + ((g0 ++ c :: (body ++ R)).length - R.length) = p + (s.length - rest.length) := by simp only [List.length_append, List.length_cons]; omega
          rw [q1, q2, hy]
          rfl
        cases j with
        | zero =>
          simp only [List.getElem?_cons_zero, Option.some.injEq, Prod.mk.injEq] at hj
          obtain ⟨rfl, rfl, rfl⟩ := hj
          have ew : (written k0 t0).length = body.length + 1 := by rw [h6]; simp
          have ea : p + (s.length - (r.length + 1)) - p + (written k0 t0).length = g0.length + 1 + body.length := by rw [ew]; omega
          rw [ea]
          refine ⟨by omega, by omega, ?_, ?_⟩
          · have et : s.take (g0.length + 1 + body.length) = g0 ++ c :: (body ++ []) := by rw [es, ← elen, List.take_left, List.append_nil]
            rw [et]
            have := step [] (Nat.zero_le _) (fun _ c hc => by simp at hc) [] (by cases f <;> rfl)
            simpa using this
          · have ed : s.drop (g0.length + 1 + body.length) = rest := by rw [es, ← elen, List.drop_left]
            have ep : p + (s.length - (r.length + 1)) + (written k0 t0).length = p + (s.length - rest.length) := by rw [ew]; omega
            rw [ed, ep, lexF_count (f + 1) _ n (n + 1) rest (by omega) (by omega), lexF_fuel (f + 1) f _ _ rest (by omega) (by omega), h4]
            rfl
        | succ j =>
          rw [List.getElem?_cons_succ] at hj
          have ep : p + (s.length - rest.length) = p + (g0.length + 1 + body.length) := by omega
          obtain ⟨c1, c2, c3, c4⟩ := lexF_cut f _ (n + 1) rest x (by omega) (by omega) h4 j k t a hj
          rw [ep] at c1 c2 c3 c4
          refine ⟨by omega, by omega, ?_, ?_⟩
          · have et : s.take (a - p + (written k t).length) = g0 ++ c :: (body ++ rest.take (a - (p + (g0.length + 1 + body.length)) + (written k t).length)) := by
              rw [es, List.take_append, List.take_of_length_le (by omega), elen]
              have : a - p + (written k t).length - (g0.length + 1 + body.length) = a - (p + (g0.length + 1 + body.length)) + (written k t).length := by omega
              rw [this]; simp
            obtain ⟨R, hR⟩ : ∃ R, R = rest.take (a - (p + (g0.length + 1 + body.length)) + (written k t).length) := ⟨_, rfl⟩
            rw [← hR] at c3
            rw [et, ← hR]
            exact step R (by rw [hR, List.length_take]; omega) (fun hk => by rw [hR]; exact calm_take (hcalm hk) _) _ (by rw [ep]; exact c3)
          · have ed : s.drop (a - p + (written k t).length) = rest.drop (a - (p + (g0.length + 1 + body.length)) + (written k t).length) := by
              rw [es, List.drop_append, List.drop_eq_nil_of_le (by omega), elen]
              have : a - p + (written k t).length - (g0.length + 1 + body.length) = a - (p + (g0.length + 1 + body.length)) + (written k t).length := by omega
              rw [this]; simp
            have hdl : (rest.drop (a - (p + (g0.length + 1 + body.length)) + (written k t).length)).length ≤ rest.length := by rw [List.length_drop]; omega
            rw [ed, lexF_count (f + 1) _ n (n + 1) _ (by omega) (by omega), lexF_fuel (f + 1) f _ _ _ (by omega) (by omega), c4]
            rfl

/-! ### Strings and names -/
theorem lex_quote (t : List UInt8) : lex (quote t) = .ok [(3, t, 0)] := by
  unfold lex
  have e : (quote t).length = (enc t ++ [34]).length + 1 := rfl
  rw [e]
  unfold lexF
  have hq : quote t = 34 :: (enc t ++ [34]) := rfl
  rw [hq, skip_at (by decide) (by decide)]
  dsimp only
  have ht : tok 34 (enc t ++ [34]) = .ok 3 t [] := by
    unfold tok
    rw [if_neg (by decide), if_neg (by decide), if_pos (by decide), strD_enc]
  rw [ht]
  dsimp only
  rw [if_neg (by decide)]
  have hn : ∀ f p n, lexF f p n [] = .ok [] := fun f p n => by cases f <;> rfl
  rw [hn]
  simp [Except.map]
def nameB (s : List UInt8) : Bool := decide (s.length ≤ 24) && s.all isWord && match s with | [] => false | c :: _ => isLetter c
theorem tok_name {c : UInt8} {r rest : List UInt8} (h : nameB (c :: r) = true) (hr : calm rest) : tok c (r ++ rest) = .ok 1 (c :: r) rest := by
  unfold nameB at h
  simp only [Bool.and_eq_true, decide_eq_true_eq, List.all_cons] at h
  obtain ⟨⟨h1, h2, h3⟩, h4⟩ := h
  have := take_of isWord r rest (fun x hx => List.all_eq_true.1 h3 x hx) hr
  unfold tok
  rw [if_pos h4, this.1, this.2, if_neg (by omega)]
theorem letter_calm {c : UInt8} (h : isLetter c = true) : isBlank c = false ∧ c.toNat ≠ 35 := by
  unfold isLetter at h
  have h := of_decide_eq_true h
  refine ⟨?_, by omega⟩
  unfold isBlank
  rw [decide_eq_false_iff_not]
  omega
theorem lexF_succ (f p n : Nat) (c : UInt8) (r : List UInt8) (h1 : isBlank c = false) (h2 : c.toNat ≠ 35) {k : Nat} {t rest : List UInt8} (ht : tok c r = .ok k t rest) (hn : n ≠ 5000) :
    lexF (f + 1) p n (c :: r) = (lexF f (p + (r.length + 1 - rest.length)) (n + 1) rest).map fun l => (k, t, p) :: l := by
  conv => lhs; unfold lexF
  rw [skip_at h1 h2]
  dsimp only
  rw [ht]
  dsimp only
  rw [if_neg hn]
  simp
theorem lex_name (s : List UInt8) (h : nameB s = true) : lex s = .ok [(1, s, 0)] := by
  cases s with
  | nil => simp [nameB] at h
  | cons c r =>
    have hc : isLetter c = true := by unfold nameB at h; simp only [Bool.and_eq_true] at h; exact h.2
    unfold lex
    have ht := tok_name (rest := []) h (fun c hc => by simp at hc)
    rw [List.append_nil] at ht
    rw [List.length_cons, lexF_succ _ _ _ c r (letter_calm hc).1 (letter_calm hc).2 ht (by decide)]
    have hn : ∀ f p n, lexF (f + 1) p n [] = .ok [] := fun f p n => by unfold lexF; rfl
    rw [hn]
    rfl
theorem name_lex {s : List UInt8} (h : lex s = .ok [(1, s, 0)]) : nameB s = true := by
  unfold lex lexF at h
  cases hs : skip false s with
  | nil => rw [hs] at h; simp at h
  | cons c r =>
    rw [hs] at h
    dsimp only at h
    obtain ⟨g0, h1, h2, h3, hb1, hb2⟩ := skip_parts false s c r hs
    cases ht : tok c r with
    | err e => rw [ht] at h; cases h
    | ok k t rest =>
      rw [ht] at h
      dsimp only at h
      rw [if_neg (by decide)] at h
      obtain ⟨x, h4, h5⟩ := map_ok h
      simp only [List.cons.injEq, Prod.mk.injEq] at h5
      obtain ⟨⟨rfl, rfl, h6⟩, rfl⟩ := h5
      have e0 : s.length = g0.length + (r.length + 1) := by rw [h1]; simp
      have hg : g0 = [] := List.eq_nil_of_length_eq_zero (by omega)
      subst hg
      rw [List.nil_append] at h1
      unfold tok at ht
      split at ht
      · rename_i hl
        split at ht
        · cases ht
        · rename_i hlen
          simp only [Res.ok.injEq] at ht
          obtain ⟨_, h7, h8⟩ := ht
          unfold nameB
          rw [← h7]
          simp only [List.all_cons, Bool.and_eq_true, decide_eq_true_eq]
          refine ⟨⟨by omega, ?_, ?_⟩, hl⟩
          · unfold isWord; rw [hl]; rfl
          · exact List.all_eq_true.2 (take_all isWord r)
      · split at ht
        · split at ht
          · cases ht
          · simp only [Res.ok.injEq] at ht; omega
        · split at ht
          · split at ht
            · simp only [Res.ok.injEq] at ht; omega
            · cases ht
          · split at ht
            · simp only [Res.ok.injEq] at ht; omega
            · cases ht
theorem sym_parts {c : UInt8} (h : isSym c = true) : isLetter c = false ∧ isDigit c = false ∧ c.toNat ≠ 34 ∧ isWord c = false ∧ isBlank c = false ∧ c.toNat ≠ 35 := by
  have h := of_decide_eq_true h
  simp only [List.mem_cons, List.not_mem_nil, or_false] at h
  unfold isWord isLetter isDigit isBlank
  simp only [Bool.or_eq_false_iff, decide_eq_false_iff_not]
  omega
theorem lex_three {s d : List UInt8} {c : UInt8} (hs : nameB s = true) (hc : isSym c = true) (hd : ∀ x ∈ d, isDigit x = true) (h0 : d ≠ []) (h7 : d.length ≤ 7) : lex (s ++ c :: d) = .ok [(1, s, 0), (4, [c], s.length), (2, d, s.length + 1)] := by
  cases s with
  | nil => simp [nameB] at hs
  | cons a r =>
    have ha : isLetter a = true := by unfold nameB at hs; simp only [Bool.and_eq_true] at hs; exact hs.2
    obtain ⟨s1, s2, s3, s4, s5, s6⟩ := sym_parts hc
    cases d with
    | nil => exact absurd rfl h0
    | cons x d =>
      have hx := hd x (by simp)
      have hx1 : isLetter x = false ∧ isBlank x = false ∧ x.toNat ≠ 35 := by
        have := of_decide_eq_true (show decide _ = true from hx)
        unfold isLetter isBlank
        simp only [decide_eq_false_iff_not]
        omega
      have t1 := tok_name (rest := c :: x :: d) hs (fun y hy => by simp at hy; subst hy; exact s4)
      have t2 : tok c (x :: d) = .ok 4 [c] (x :: d) := by
        unfold tok
        rw [if_neg (by rw [s1]; decide), if_neg (by rw [s2]; decide), if_neg s3, if_pos hc]
      have hw := take_of isDigit d [] (fun y hy => hd y (List.mem_cons_of_mem _ hy)) (fun y hy => by simp at hy)
      rw [List.append_nil] at hw
      have t3 : tok x d = .ok 2 (x :: d) [] := by
        unfold tok
        rw [if_neg (by rw [hx1.1]; decide), if_pos hx, hw.1, hw.2, if_neg]
        rw [not_or]
        exact ⟨by omega, by decide⟩
      unfold lex
      have e : ((a :: r) ++ c :: x :: d).length + 1 = r.length + d.length + 3 + 1 := by simp; omega
      rw [e, List.cons_append, lexF_succ _ _ _ a _ (letter_calm ha).1 (letter_calm ha).2 t1 (by decide), lexF_succ _ _ _ c _ s5 s6 t2 (by decide), lexF_succ _ _ _ x _ hx1.2.1 hx1.2.2 t3 (by decide)]
      have hn : ∀ f p n, lexF f p n [] = .ok [] := fun f p n => by cases f <;> rfl
      rw [hn]
      simp [Except.map]
      omega

end Lex

end Go.Proofs.YtfkejnnbfneieaaGreatDoor
