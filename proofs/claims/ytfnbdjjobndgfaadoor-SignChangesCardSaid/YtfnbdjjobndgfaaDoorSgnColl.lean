/- What follows for seals where no two of the digested texts have one digest. -/
import Derived.Test.YtfnbdjjobndgfaaDoorSgnMath
import Derived.Test.YtfnbdjjobndgfaaDoorJoinInj
namespace Go.Proofs.YtfnbdjjobndgfaaDoor
namespace Sgn

def textOf (ss : List T) : T := ⟨(joinText (bytesOf ss)).toArray⟩
theorem lst_text (ss : List T) : lst ss = dg (textOf ss) := rfl
theorem bytes_inj : ∀ {ss tt : List T}, bytesOf ss = bytesOf tt → ss = tt
  | [], [], _ => rfl
  | [], _ :: _, h => by cases h
  | _ :: _, [], h => by cases h
  | a :: ta, b :: tb, h => by
    have h' : a.data.toList :: bytesOf ta = b.data.toList :: bytesOf tb := h
    obtain ⟨h1, h2⟩ := List.cons.inj h'
    have e : a = b := by
      obtain ⟨⟨a⟩⟩ := a
      obtain ⟨⟨b⟩⟩ := b
      have h3 : a = b := h1
      rw [h3]
    rw [e, bytes_inj h2]
theorem text_inj {ss tt : List T} (h : textOf ss = textOf tt) : ss = tt := by
  have h1 : (textOf ss).data.toList = (textOf tt).data.toList := by rw [h]
  have h2 : joinText (bytesOf ss) = joinText (bytesOf tt) := h1
  exact bytes_inj (joinText_inj _ _ h2)
def nodeTx (a b : T) : T := textOf [nodeT, a, b]
theorem node_text (a b : T) : nodeV a b = dg (nodeTx a b) := rfl
theorem node_inj {a b c d : T} (h : nodeTx a b = nodeTx c d) : a = c ∧ b = d := by
  have := text_inj h
  simp only [List.cons.injEq, true_and, and_true] at this
  exact this
def startT (sec : T) (i k : Nat) : T := textOf [sec, decT i, decT k]
theorem decT_inj {i k : Nat} (h : decT i = decT k) : i = k := by
  have h1 : (decT i).data.toList = (decT k).data.toList := by rw [h]
  have h2 : Lib.decDigits i = Lib.decDigits k := h1
  rw [← decVal_digits i, h2, decVal_digits]
theorem startT_inj {s1 s2 : T} {i1 i2 k1 k2 : Nat} (h : startT s1 i1 k1 = startT s2 i2 k2) : s1 = s2 ∧ i1 = i2 ∧ k1 = k2 := by
  have := text_inj h
  simp only [List.cons.injEq, and_true] at this
  exact ⟨this.1, decT_inj this.2.1, decT_inj this.2.2⟩
theorem start_dg (sec : T) (i k : Nat) : startV sec i k = dg (startT sec i k) := rfl
/-- A joined text is no digest. -/
theorem startT_no (sec : T) (i k : Nat) (s : T) : startT sec i k ≠ dg s := by
  intro h
  have hh := (isB_parts (dg_is s)).2
  rw [← h] at hh
  have hm : (58 : UInt8) ∈ (startT sec i k).data.toList := by
    show (58 : UInt8) ∈ joinText (bytesOf [sec, decT i, decT k])
    simp [joinText, bytesOf]
  exact absurd (hh 58 hm) (by decide)

/-- No two texts of a list have one digest. -/
def Inj (L : List T) : Prop := ∀ x ∈ L, ∀ y ∈ L, dg x = dg y → x = y
def stepT (i : Nat) (path : List T) (a0 : T) (n : Nat) : T := if i / 2 ^ n % 2 = 1 then nodeTx (at_ path n) (climbUp i path a0 n) else nodeTx (climbUp i path a0 n) (at_ path n)
theorem step_dg (i : Nat) (path : List T) (a0 : T) (n : Nat) : climbUp i path a0 (n + 1) = dg (stepT i path a0 n) := by
  show (if _ then _ else _ : T) = _
  unfold stepT
  split <;> rfl
theorem step_node (i : Nat) (path : List T) (a0 : T) (n : Nat) : ∃ a b, stepT i path a0 n = nodeTx a b := by
  unfold stepT
  split
  · exact ⟨_, _, rfl⟩
  · exact ⟨_, _, rfl⟩

/-- What is digested for the tree above the chains. -/
structure HasTree (L : List T) (sec : T) (h : Nat) : Prop where
  keys : ∀ q, q < 2 ^ h → textOf (endsV sec q) ∈ L
  nodes : ∀ n, n < h → ∀ q, q < 2 ^ (h - (n + 1)) → nodeTx (at_ (level sec h n) (2 * q)) (at_ (level sec h n) (2 * q + 1)) ∈ L
structure HasPath (L : List T) (m : T) (i : Nat) (sig path : List T) : Prop where
  key : textOf (endsOf m sig) ∈ L
  steps : ∀ n, n < path.length → stepT i path (lst (endsOf m sig)) n ∈ L

theorem level_at (sec : T) (h n q : Nat) (hn : n < h) (hq : q < 2 ^ (h - (n + 1))) : at_ (level sec h (n + 1)) q = dg (nodeTx (at_ (level sec h n) (2 * q)) (at_ (level sec h n) (2 * q + 1))) := by
  have hl : q < (level sec h n).length / 2 := by
    rw [level_half sec h n hn]
    exact hq
  show at_ (up (level sec h n)) q = _
  rw [at_up _ _ hl]
  rfl
theorem leaf_at (sec : T) (h q : Nat) (hq : q < 2 ^ h) : at_ (level sec h 0) q = dg (textOf (endsV sec q)) := by
  rw [at_get (by rw [level_len sec h 0 (by omega)]; simpa using hq)]
  simp [level]
  rfl

theorem climb_down {L : List T} (hI : Inj L) {sec : T} {h : Nat} (hT : HasTree L sec h) {m : T} {j : Nat} {sig path : List T} (hP : HasPath L m j sig path) (hp8 : path.length ≤ 8) (hj : j < 2 ^ path.length)
    (hr : rootOf m j sig path = rootV sec h) : ∀ t, t ≤ path.length → t ≤ h →
      climbUp j path (lst (endsOf m sig)) (path.length - t) = at_ (level sec h (h - t)) (j / 2 ^ (path.length - t)) ∧
      ∀ t', t' < t → at_ path (path.length - (t' + 1)) = at_ (level sec h (h - (t' + 1))) ((j / 2 ^ (path.length - (t' + 1))) ^^^ 1)
  | 0, _, _ => by
    refine ⟨?_, fun t' h => absurd h (by omega)⟩
    rw [Nat.sub_zero, Nat.sub_zero, Nat.div_eq_of_lt hj]
    exact hr
  | t + 1, h1, h2 => by
    obtain ⟨hc, hs⟩ := climb_down hI hT hP hp8 hj hr t (by omega) (by omega)
    obtain ⟨n, hn⟩ : ∃ n, n = path.length - (t + 1) := ⟨_, rfl⟩
    obtain ⟨n', hn'⟩ : ∃ n', n' = h - (t + 1) := ⟨_, rfl⟩
    rw [show path.length - t = n + 1 by omega, show h - t = n' + 1 by omega, step_dg] at hc
    have hlt := div_lt j path.length n hj (by omega)
    have hlt1 := div_lt j path.length (n + 1) hj (by omega)
    rw [show path.length - (n + 1) = h - (n' + 1) by omega] at hlt1
    have e2 : j / 2 ^ (n + 1) = j / 2 ^ n / 2 := by rw [Nat.pow_succ, Nat.div_div_eq_div_mul]
    have hb : j / 2 ^ n ≤ 256 := by
      have := Nat.div_le_self j (2 ^ n)
      have h8 : 2 ^ path.length ≤ 2 ^ 8 := Nat.pow_le_pow_right (by decide) hp8
      omega
    rw [level_at sec h n' _ (by omega) hlt1] at hc
    have hx := hI _ (hP.steps n (by omega)) _ (hT.nodes n' (by omega) _ hlt1) hc
    have key : climbUp j path (lst (endsOf m sig)) n = at_ (level sec h n') (j / 2 ^ n) ∧ at_ path n = at_ (level sec h n') ((j / 2 ^ n) ^^^ 1) := by
      rw [e2] at hx
      rw [xor_one _ hb]
      unfold stepT at hx
      by_cases hbt : j / 2 ^ n % 2 = 1
      · rw [if_pos hbt] at hx ⊢
        obtain ⟨x1, x2⟩ := node_inj hx
        rw [(half_odd _ hbt).1, (half_odd _ hbt).2] at x2
        rw [(half_odd _ hbt).1] at x1
        exact ⟨x2, x1⟩
      · rw [if_neg hbt] at hx ⊢
        obtain ⟨x1, x2⟩ := node_inj hx
        rw [half_even _ hbt] at x1 x2
        exact ⟨x1, x2⟩
    rw [← hn, ← hn']
    refine ⟨key.1, fun t' ht' => ?_⟩
    by_cases e : t' = t
    · subst e
      rw [← hn, ← hn']
      exact key.2
    · exact hs t' (by omega)

theorem core {L : List T} (hI : Inj L) {sec : T} {h : Nat} (hT : HasTree L sec h) {m : T} {j : Nat} {sig path : List T} (hP : HasPath L m j sig path) (hp8 : path.length ≤ 8) (hj : j < 2 ^ path.length)
    (hr : rootOf m j sig path = rootV sec h) : path.length = h ∧ path = pathV sec h j ∧ endsOf m sig = endsV sec j := by
  have el : (endsOf m sig).length = 18 := by simp [endsOf]
  have el2 : ∀ q, (endsV sec q).length = 18 := fun q => by simp [endsV]
  have no3 : ∀ (l : List T) a b, l.length = 18 → textOf l ≠ nodeTx a b := fun l a b hl he => by
    have := congrArg List.length (text_inj he)
    rw [hl] at this
    simp at this
  have hd := climb_down hI hT hP hp8 hj hr
  rcases Nat.lt_trichotomy path.length h with hlt | heq | hgt
  · exfalso
    obtain ⟨hc, _⟩ := hd path.length (Nat.le_refl _) (by omega)
    rw [Nat.sub_self, Nat.pow_zero, Nat.div_one] at hc
    have hc' : lst (endsOf m sig) = at_ (level sec h (h - path.length - 1 + 1)) j := by rw [show h - path.length - 1 + 1 = h - path.length by omega]; exact hc
    have hq : j < 2 ^ (h - (h - path.length - 1 + 1)) := by rw [show h - (h - path.length - 1 + 1) = path.length by omega]; exact hj
    rw [level_at sec h _ _ (by omega) hq, lst_text] at hc'
    exact no3 _ _ _ el (hI _ hP.key _ (hT.nodes _ (by omega) _ hq) hc')
  · obtain ⟨hc, hs⟩ := hd path.length (Nat.le_refl _) (by omega)
    rw [Nat.sub_self, Nat.pow_zero, Nat.div_one, show h - path.length = 0 by omega] at hc
    have hjh : j < 2 ^ h := by rw [← heq]; exact hj
    have hc' : lst (endsOf m sig) = at_ (level sec h 0) j := hc
    rw [leaf_at sec h j hjh, lst_text] at hc'
    refine ⟨heq, ?_, text_inj (hI _ hP.key _ (hT.keys j hjh) hc')⟩
    refine List.ext_getElem (by rw [path_len]; exact heq) fun n h1 h2 => ?_
    have := hs (path.length - (n + 1)) (by omega)
    rw [show path.length - (path.length - (n + 1) + 1) = n by omega, show h - (path.length - (n + 1) + 1) = n by omega, at_get h1] at this
    rw [this]
    simp [pathV]
  · exfalso
    obtain ⟨hc, _⟩ := hd h (by omega) (Nat.le_refl _)
    obtain ⟨n, hn⟩ : ∃ n, n + 1 = path.length - h := ⟨path.length - h - 1, by omega⟩
    have hq : j / 2 ^ (path.length - h) < 2 ^ h := by
      have := div_lt j path.length (path.length - h) hj (by omega)
      rwa [show path.length - (path.length - h) = h by omega] at this
    rw [Nat.sub_self, leaf_at sec h _ hq, ← hn, step_dg] at hc
    rw [← hn] at hq
    obtain ⟨a, b, hab⟩ := step_node j path (lst (endsOf m sig)) n
    have hx := hI _ (hP.steps n (by omega)) _ (hT.keys _ hq) hc
    rw [hab] at hx
    exact no3 _ _ _ (el2 _) hx.symm

theorem chain_back {L : List T} (hI : Inj L) (x y : T) (a b : Nat) : ∀ c, (∀ k, k < a + c → chainV k x ∈ L) → (∀ k, k < b + c → chainV k y ∈ L) → chainV (a + c) x = chainV (b + c) y → chainV a x = chainV b y
  | 0, _, _, h => h
  | c + 1, hx, hy, h => chain_back hI x y a b c (fun k hk => hx k (by omega)) (fun k hk => hy k (by omega)) (hI _ (hx (a + c) (by omega)) _ (hy (b + c) (by omega)) h)

theorem ends_at {m : T} {sig : List T} {sec : T} {j : Nat} (h : endsOf m sig = endsV sec j) (k : Nat) (hk : k < 18) : chainV (15 - dAt m k) (at_ sig k) = chainV 15 (startV sec j k) := by
  have := congrArg (fun l => at_ l k) h
  have e1 : at_ (endsOf m sig) k = chainV (15 - dAt m k) (at_ sig k) := by rw [at_get (by simpa [endsOf] using hk)]; simp [endsOf]
  have e2 : at_ (endsV sec j) k = chainV 15 (startV sec j k) := by rw [at_get (by simpa [endsV] using hk)]; simp [endsV]
  rw [← e1, ← e2]
  exact this
theorem at_sig (sec : T) (i : Nat) (m : T) (k : Nat) (hk : k < 18) : at_ (sigV sec i m) k = chainV (dAt m k) (startV sec i k) := by
  rw [at_get (by rw [sig_len]; exact hk)]
  simp [sigV]
theorem ext18 {a b : List T} (ha : a.length = 18) (hb : b.length = 18) (h : ∀ k, k < 18 → at_ a k = at_ b k) : a = b := by
  refine List.ext_getElem (by rw [ha, hb]) fun k h1 h2 => ?_
  have := h k (by omega)
  rwa [at_get h1, at_get h2] at this
/-- P2.3: what is accepted is the seal. -/
theorem sound {L : List T} (hI : Inj L) {sec : T} {h : Nat} (hT : HasTree L sec h) (hC : ∀ i, i < 2 ^ h → ∀ k, k < 18 → ∀ n, n ≤ 15 → chainV n (startV sec i k) ∈ L)
    {m : T} {j : Nat} {sig path : List T} (hP : HasPath L m j sig path) (hS : ∀ k, k < 18 → ∀ n, n ≤ 15 - dAt m k → chainV n (at_ sig k) ∈ L) (hl : sig.length = 18) (hp8 : path.length ≤ 8) (hj : j < 2 ^ path.length)
    (hr : rootOf m j sig path = rootV sec h) : path.length = h ∧ path = pathV sec h j ∧ sig = sigV sec j m := by
  obtain ⟨h1, h2, h3⟩ := core hI hT hP hp8 hj hr
  refine ⟨h1, h2, ext18 hl (sig_len _ _ _) fun k hk => ?_⟩
  rw [at_sig sec j m k hk]
  have h4 := ends_at h3 k hk
  have hd := dAt_le m k
  have hjh : j < 2 ^ h := by rw [← h1]; exact hj
  have := chain_back hI (at_ sig k) (startV sec j k) 0 (dAt m k) (15 - dAt m k) (fun q hq => hS k hk q (by omega)) (fun q hq => hC j hjh k hk q (by omega))
    (by rw [Nat.zero_add, show dAt m k + (15 - dAt m k) = 15 by omega]; exact h4)
  exact this
theorem valN_inj {a b : UInt8} (ha : Dig.isHex a = true) (hb : Dig.isHex b = true) (h : valN a = valN b) : a = b := by
  have h1 := of_decide_eq_true ha
  have h2 := of_decide_eq_true hb
  unfold valN at h
  apply UInt8.toNat_inj.1
  split at h <;> split at h <;> omega
theorem vals_inj {m o : T} (h : vals m = vals o) : dg m = dg o := by
  have key : ∀ (l k : List UInt8), (∀ c ∈ l, Dig.isHex c = true) → (∀ c ∈ k, Dig.isHex c = true) → l.map valN = k.map valN → l = k := by
    intro l
    induction l with
    | nil =>
      intro k _ _ h
      cases k with
      | nil => rfl
      | cons _ _ => cases h
    | cons a t ih =>
      intro k hl hk h
      cases k with
      | nil => cases h
      | cons b u =>
        simp only [List.map_cons, List.cons.injEq] at h
        rw [valN_inj (hl a (by simp)) (hk b (by simp)) h.1, ih u (fun c hc => hl c (by simp [hc])) (fun c hc => hk c (by simp [hc])) h.2]
  have h1 := key _ _ (isB_parts (dg_is m)).2 (isB_parts (dg_is o)).2 h
  have e : ∀ (a b : T), a.data.toList = b.data.toList → a = b := fun a b h => by
    obtain ⟨⟨a⟩⟩ := a
    obtain ⟨⟨b⟩⟩ := b
    have h3 : a = b := h
    rw [h3]
  exact e _ _ h1
theorem digits_differ {m o : T} (h : dg m ≠ dg o) : ∃ k, k < 18 ∧ dAt m k ≠ dAt o k := by
  refine Classical.byContradiction fun hn => h (vals_inj ?_)
  have hall : ∀ k, k < 18 → dAt m k = dAt o k := fun k hk => Classical.byContradiction fun hne => hn ⟨k, hk, hne⟩
  refine List.ext_getElem (by rw [vals_len, vals_len]) fun k h1 h2 => ?_
  have hk : k < 16 := by rw [vals_len] at h1; exact h1
  have := hall k (by omega)
  have e : ∀ m, (hm : k < (vals m).length) → dAt m k = (vals m)[k] := fun m hm => by
    unfold dAt digitsV
    rw [List.getD_eq_getElem?_getD, List.getElem?_append_left hm, List.getElem?_eq_getElem hm]
    rfl
  rw [e m h1, e o h2] at this
  exact this
/-- P2.4: a seal of a message is none of another message. -/
theorem binds {L : List T} (hI : Inj L) {sec : T} {h : Nat} (hT : HasTree L sec h) (hC : ∀ i, i < 2 ^ h → ∀ k, k < 18 → startT sec i k ∈ L ∧ ∀ n, n ≤ 30 → chainV n (startV sec i k) ∈ L)
    {m o : T} {i : Nat} (hd : dg m ≠ dg o) (hh : h ≤ 8) (hi : i < 2 ^ h) (hP : HasPath L o i (sigV sec i m) (pathV sec h i)) (hr : rootOf o i (sigV sec i m) (pathV sec h i) = rootV sec h) : False := by
  obtain ⟨_, _, h3⟩ := core hI hT hP (by rw [path_len]; exact hh) (by rw [path_len]; exact hi) hr
  obtain ⟨k, hk, hne⟩ := digits_differ hd
  have h4 := ends_at h3 k hk
  rw [at_sig sec i m k hk, ← chainV_add] at h4
  obtain ⟨hs, hc⟩ := hC i hi k hk
  have hm := dAt_le m k
  have ho := dAt_le o k
  have no : ∀ e, chainV (e + 1) (startV sec i k) = startV sec i k → e ≤ 29 → False := fun e he h29 => by
    rw [start_dg] at he
    have he' : dg (chainV e (startV sec i k)) = dg (startT sec i k) := he
    have hx := hI _ (hc e (by omega)) _ hs he'
    cases e with
    | zero => exact startT_no sec i k (startT sec i k) hx.symm
    | succ e => exact startT_no sec i k (chainV e (startV sec i k)) hx.symm
  rcases Nat.lt_or_gt_of_ne hne with hlt | hgt
  · -- the digit of the other message is greater
    have := chain_back hI (startV sec i k) (startV sec i k) 0 (dAt o k - dAt m k) (dAt m k + (15 - dAt o k)) (fun q hq => hc q (by omega)) (fun q hq => hc q (by omega))
      (by rw [Nat.zero_add, show dAt o k - dAt m k + (dAt m k + (15 - dAt o k)) = 15 by omega]; exact h4)
    refine no (dAt o k - dAt m k - 1) ?_ (by omega)
    rw [show dAt o k - dAt m k - 1 + 1 = dAt o k - dAt m k by omega]
    exact this.symm
  · have := chain_back hI (startV sec i k) (startV sec i k) (dAt m k - dAt o k) 0 15 (fun q hq => hc q (by omega)) (fun q hq => hc q (by omega))
      (by rw [Nat.zero_add, show dAt m k - dAt o k + 15 = dAt m k + (15 - dAt o k) by omega]; exact h4)
    refine no (dAt m k - dAt o k - 1) ?_ (by omega)
    rw [show dAt m k - dAt o k - 1 + 1 = dAt m k - dAt o k by omega]
    exact this
/-- P2.5: different secrets have different keys. -/
theorem secrets {L : List T} (hI : Inj L) {sec oth : T} {h : Nat} (hT : HasTree L sec h) (hU : HasTree L oth h) (hC : ∀ k, k < 18 → startT sec 0 k ∈ L ∧ ∀ n, n ≤ 15 → chainV n (startV sec 0 k) ∈ L)
    (hD : ∀ k, k < 18 → startT oth 0 k ∈ L ∧ ∀ n, n ≤ 15 → chainV n (startV oth 0 k) ∈ L) (hr : rootV sec h = rootV oth h) : sec = oth := by
  have down : ∀ t, t ≤ h → at_ (level sec h (h - t)) 0 = at_ (level oth h (h - t)) 0 := by
    intro t
    induction t with
    | zero => intro _; exact hr
    | succ t ih =>
      intro ht
      have h1 := ih (by omega)
      obtain ⟨n, hn⟩ : ∃ n, n = h - (t + 1) := ⟨_, rfl⟩
      have hq : 0 < 2 ^ (h - (n + 1)) := Nat.pow_pos (by decide)
      rw [show h - t = n + 1 by omega, level_at sec h n 0 (by omega) hq, level_at oth h n 0 (by omega) hq] at h1
      rw [← hn]
      exact (node_inj (hI _ (hT.nodes n (by omega) 0 hq) _ (hU.nodes n (by omega) 0 hq) h1)).1
  have h0 := down h (Nat.le_refl _)
  have hp : 0 < 2 ^ h := Nat.pow_pos (by decide)
  rw [Nat.sub_self, leaf_at sec h 0 hp, leaf_at oth h 0 hp] at h0
  have h1 := text_inj (hI _ (hT.keys 0 hp) _ (hU.keys 0 hp) h0)
  have e : ∀ s, at_ (endsV s 0) 0 = chainV 15 (startV s 0 0) := fun s => by rw [at_get (by simp [endsV])]; simp [endsV]
  have h2 : chainV 15 (startV sec 0 0) = chainV 15 (startV oth 0 0) := by rw [← e, ← e, h1]
  have h3 := chain_back hI (startV sec 0 0) (startV oth 0 0) 0 0 15 (fun q hq => (hC 0 (by decide)).2 q (by omega)) (fun q hq => (hD 0 (by decide)).2 q (by omega)) (by rw [Nat.zero_add]; exact h2)
  exact (startT_inj (hI _ (hC 0 (by decide)).1 _ (hD 0 (by decide)).1 h3)).1
/-- P2.3: a seal at another index differs. -/
theorem sigs_differ {L : List T} (hI : Inj L) {sec m : T} {i j : Nat} (hC : ∀ k, k < 18 → startT sec i k ∈ L ∧ ∀ n, n ≤ 15 → chainV n (startV sec i k) ∈ L) (hD : ∀ k, k < 18 → startT sec j k ∈ L ∧ ∀ n, n ≤ 15 → chainV n (startV sec j k) ∈ L)
    (h : sigV sec i m = sigV sec j m) : i = j := by
  have h1 : at_ (sigV sec i m) 0 = at_ (sigV sec j m) 0 := by rw [h]
  have hd := dAt_le m 0
  rw [at_sig sec i m 0 (by decide), at_sig sec j m 0 (by decide)] at h1
  have h2 := chain_back hI (startV sec i 0) (startV sec j 0) 0 0 (dAt m 0) (fun q hq => (hC 0 (by decide)).2 q (by omega)) (fun q hq => (hD 0 (by decide)).2 q (by omega)) (by rw [Nat.zero_add]; exact h1)
  exact (startT_inj (hI _ (hC 0 (by decide)).1 _ (hD 0 (by decide)).1 h2)).2.1

end Sgn
end Go.Proofs.YtfnbdjjobndgfaaDoor
