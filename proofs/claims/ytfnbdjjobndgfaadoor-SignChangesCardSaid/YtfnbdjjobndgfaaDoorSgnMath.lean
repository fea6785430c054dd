/- Chains, one-time keys and trees as values. -/
import Derived.Test.YtfnbdjjobndgfaaDoorSgLists
namespace Go.Proofs.YtfnbdjjobndgfaaDoor
namespace Sgn

abbrev T := ByteArray
def none : T := ⟨#[]⟩
def dg (s : T) : T := digestOf s.data.toList
def lst (ss : List T) : T := digestOf (joinText (bytesOf ss))
def chainV : Nat → T → T
  | 0, s => s
  | n + 1, s => dg (chainV n s)
theorem chainV_add (a b : Nat) (s : T) : chainV (a + b) s = chainV b (chainV a s) := by
  induction b with
  | zero => rfl
  | succ b ih => show dg (chainV (a + b) s) = dg (chainV b (chainV a s)); rw [ih]
def decT (n : Nat) : T := ⟨(Lib.decDigits n).toArray⟩
def startV (sec : T) (i k : Nat) : T := lst [sec, decT i, decT k]
def endsV (sec : T) (i : Nat) : List T := (List.range 18).map fun k => chainV 15 (startV sec i k)
def keyV (sec : T) (i : Nat) : T := lst (endsV sec i)
def nodeT : T := ⟨#[110, 111, 100, 101]⟩
def nodeV (a b : T) : T := lst [nodeT, a, b]
def at_ (l : List T) (i : Nat) : T := l.getD i none
theorem at_get {l : List T} {i : Nat} (h : i < l.length) : at_ l i = l[i] := by
  unfold at_
  rw [List.getD_eq_getElem?_getD, List.getElem?_eq_getElem h]; rfl
def up (l : List T) : List T := (List.range (l.length / 2)).map fun i => nodeV (at_ l (2 * i)) (at_ l (2 * i + 1))
theorem up_len (l : List T) : (up l).length = l.length / 2 := by simp [up]
def level (sec : T) (h : Nat) : Nat → List T
  | 0 => (List.range (2 ^ h)).map (keyV sec)
  | n + 1 => up (level sec h n)
theorem level_len (sec : T) (h : Nat) : ∀ n, n ≤ h → (level sec h n).length = 2 ^ (h - n)
  | 0, _ => by simp [level]
  | n + 1, hn => by
    show (up (level sec h n)).length = _
    rw [up_len, level_len sec h n (by omega), show h - n = (h - (n + 1)) + 1 by omega, Nat.pow_succ]
    omega
def rootV (sec : T) (h : Nat) : T := at_ (level sec h h) 0
/-- What a hexadecimal digit stands for. -/
def valN (c : UInt8) : Nat := if 97 ≤ c.toNat then c.toNat - 97 + 10 else c.toNat - 48
theorem valN_hex {c : UInt8} (h : Dig.isHex c = true) : valN c ≤ 15 := by
  have := of_decide_eq_true h
  unfold valN
  split <;> omega
def vals (m : T) : List Nat := (dg m).data.toList.map valN
def restTo (l : List Nat) : Nat := l.foldl (fun s d => s + (15 - d)) 0
theorem restTo_snoc (l : List Nat) (d : Nat) : restTo (l ++ [d]) = restTo l + (15 - d) := by simp [restTo]
theorem restTo_le : ∀ l : List Nat, restTo l ≤ 15 * l.length := by
  intro l
  suffices hs : ∀ (l : List Nat) (s : Nat), l.foldl (fun s d => s + (15 - d)) s ≤ s + 15 * l.length by
    have := hs l 0
    unfold restTo
    omega
  intro l
  induction l with
  | nil => intro s; simp
  | cons d t ih =>
    intro s
    have := ih (s + (15 - d))
    simp only [List.foldl_cons, List.length_cons]
    omega
def digitsV (m : T) : List Nat := vals m ++ [restTo (vals m) / 16, restTo (vals m) % 16]
theorem dg_size (s : T) : (dg s).size = 16 := digestOf_size _
theorem lst_size (ss : List T) : (lst ss).size = 16 := digestOf_size _
theorem dg_is (s : T) : Dig.isB (dg s).data.toList = true := by
  unfold dg
  rw [digestOf_data]
  exact Dig.isB_hex _
theorem lst_is (ss : List T) : Dig.isB (lst ss).data.toList = true := by
  unfold lst
  rw [digestOf_data]
  exact Dig.isB_hex _
theorem isB_parts {l : List UInt8} (h : Dig.isB l = true) : l.length = 16 ∧ ∀ c ∈ l, Dig.isHex c = true := by
  unfold Dig.isB at h
  rw [Bool.and_eq_true, List.all_eq_true, decide_eq_true_eq] at h
  exact ⟨h.2, h.1⟩
theorem vals_len (m : T) : (vals m).length = 16 := by
  unfold vals
  rw [List.length_map]
  exact dg_size m
theorem vals_le (m : T) : ∀ d ∈ vals m, d ≤ 15 := by
  intro d hd
  obtain ⟨c, hc, rfl⟩ := List.mem_map.1 hd
  exact valN_hex ((isB_parts (dg_is m)).2 c hc)
theorem digitsV_len (m : T) : (digitsV m).length = 18 := by
  unfold digitsV
  rw [List.length_append, vals_len]
  rfl
theorem digitsV_le (m : T) : ∀ d ∈ digitsV m, d ≤ 15 := by
  intro d hd
  have h1 := restTo_le (vals m)
  rw [vals_len] at h1
  rcases List.mem_append.1 hd with hd | hd
  · exact vals_le m d hd
  · simp only [List.mem_cons, List.not_mem_nil, or_false] at hd
    rcases hd with rfl | rfl <;> omega
def dAt (m : T) (k : Nat) : Nat := (digitsV m).getD k 0
theorem dAt_le (m : T) (k : Nat) : dAt m k ≤ 15 := by
  unfold dAt
  by_cases h : k < (digitsV m).length
  · rw [List.getD_eq_getElem?_getD, List.getElem?_eq_getElem h]
    exact digitsV_le m _ (List.getElem_mem h)
  · rw [List.getD_eq_getElem?_getD, List.getElem?_eq_none (by omega)]
    simp
def sigV (sec : T) (i : Nat) (m : T) : List T := (List.range 18).map fun k => chainV (dAt m k) (startV sec i k)
def pathV (sec : T) (h i : Nat) : List T := (List.range h).map fun n => at_ (level sec h n) ((i / 2 ^ n) ^^^ 1)
def endsOf (m : T) (sig : List T) : List T := (List.range 18).map fun k => chainV (15 - dAt m k) (at_ sig k)
/-- From a one-time key to the root. -/
def climbUp (i : Nat) (path : List T) (at0 : T) : Nat → T
  | 0 => at0
  | n + 1 => if i / 2 ^ n % 2 = 1 then nodeV (at_ path n) (climbUp i path at0 n) else nodeV (climbUp i path at0 n) (at_ path n)
def rootOf (m : T) (i : Nat) (sig path : List T) : T := climbUp i path (lst (endsOf m sig)) path.length
def formB (idx : Int) (sig path : List T) : Bool := decide (sig.length = 18) && decide (path.length ≤ 8) && sig.all (fun s => Dig.isB s.data.toList) && path.all (fun s => Dig.isB s.data.toList) && decide (0 ≤ idx) && decide (idx < (2 ^ path.length : Nat))
def verifyB (pub m : T) (idx : Int) (sig path : List T) : Bool := formB idx sig path && decide (rootOf m idx.toNat sig path = pub)

end Sgn
end Go.Proofs.YtfnbdjjobndgfaaDoor

/- A seal that was made leads to the root. -/
namespace Go.Proofs.YtfnbdjjobndgfaaDoor
namespace Sgn

theorem xor_one (n : Nat) (h : n ≤ 256) : n ^^^ 1 = if n % 2 = 1 then n - 1 else n + 1 := by
  have h1 : ∀ q : Fin 257, q.val ^^^ 1 = if q.val % 2 = 1 then q.val - 1 else q.val + 1 := by decide +kernel
  exact h1 ⟨n, by omega⟩
theorem xor_lt (n k : Nat) (hk : k ≤ 8) (hk0 : 0 < k) (h : n < 2 ^ k) : n ^^^ 1 < 2 ^ k := by
  have h8 : 2 ^ k ≤ 256 := Nat.pow_le_pow_right (by decide) hk
  rw [xor_one n (by omega)]
  have he : 2 ^ k = 2 * 2 ^ (k - 1) := by rw [show k = (k - 1) + 1 by omega, Nat.pow_succ]; simp; omega
  split <;> omega
theorem div_lt (i h n : Nat) (hi : i < 2 ^ h) (hn : n ≤ h) : i / 2 ^ n < 2 ^ (h - n) := by
  rw [Nat.div_lt_iff_lt_mul (Nat.pow_pos (by decide)), ← Nat.pow_add]
  rwa [show h - n + n = h by omega]
theorem sig_len (sec : T) (i : Nat) (m : T) : (sigV sec i m).length = 18 := by simp [sigV]
theorem path_len (sec : T) (h i : Nat) : (pathV sec h i).length = h := by simp [pathV]
theorem start_size (sec : T) (i k : Nat) : (startV sec i k).size = 16 := lst_size _
theorem ends_sig (sec : T) (i : Nat) (m : T) : endsOf m (sigV sec i m) = endsV sec i := by
  unfold endsOf endsV
  refine List.map_congr_left fun k hk => ?_
  have hk18 := List.mem_range.1 hk
  have e : at_ (sigV sec i m) k = chainV (dAt m k) (startV sec i k) := by
    rw [at_get (by rw [sig_len]; exact hk18)]
    simp [sigV]
  rw [e, ← chainV_add, show dAt m k + (15 - dAt m k) = 15 by have := dAt_le m k; omega]
theorem at_up (l : List T) (q : Nat) (h : q < l.length / 2) : at_ (up l) q = nodeV (at_ l (2 * q)) (at_ l (2 * q + 1)) := by
  rw [at_get (by rw [up_len]; exact h)]
  simp [up]
theorem half_odd (q : Nat) (h : q % 2 = 1) : 2 * (q / 2) = q - 1 ∧ q - 1 + 1 = q := by omega
theorem half_even (q : Nat) (h : ¬ q % 2 = 1) : 2 * (q / 2) = q := by omega
theorem level_half (sec : T) (h n : Nat) (hn : n + 1 ≤ h) : (level sec h n).length / 2 = 2 ^ (h - (n + 1)) := by
  rw [level_len sec h n (by omega), show h - n = (h - (n + 1)) + 1 by omega, Nat.pow_succ, Nat.mul_div_cancel _ (by decide)]
theorem climb_path (sec : T) (h i : Nat) (hh : h ≤ 8) (hi : i < 2 ^ h) : ∀ n, n ≤ h → climbUp i (pathV sec h i) (keyV sec i) n = at_ (level sec h n) (i / 2 ^ n)
  | 0, _ => by
    show keyV sec i = _
    rw [Nat.pow_zero, Nat.div_one, at_get (by rw [level_len sec h 0 (by omega)]; simpa using hi)]
    simp [level]
  | n + 1, hn => by
    have ih := climb_path sec h i hh hi n (by omega)
    have hlt := div_lt i h n hi (by omega)
    have hlt1 := div_lt i h (n + 1) hi hn
    have hb : i / 2 ^ n ≤ 256 := by
      have := Nat.div_le_self i (2 ^ n)
      have h8 : 2 ^ h ≤ 2 ^ 8 := Nat.pow_le_pow_right (by decide) hh
      omega
    have e2 : i / 2 ^ (n + 1) = i / 2 ^ n / 2 := by rw [Nat.pow_succ, Nat.div_div_eq_div_mul]
    have hp : at_ (pathV sec h i) n = at_ (level sec h n) ((i / 2 ^ n) ^^^ 1) := by
      rw [at_get (by rw [path_len]; omega)]
      simp [pathV]
    have hl : i / 2 ^ (n + 1) < (level sec h n).length / 2 := by
      rw [level_half sec h n hn]
      exact hlt1
    show (if i / 2 ^ n % 2 = 1 then _ else _) = at_ (up (level sec h n)) _
    rw [at_up _ _ hl, ih, hp, xor_one _ hb, e2]
    by_cases hbt : i / 2 ^ n % 2 = 1
    · rw [if_pos hbt, if_pos hbt, (half_odd _ hbt).1, (half_odd _ hbt).2]
    · rw [if_neg hbt, if_neg hbt, half_even _ hbt]
theorem root_sig (sec : T) (h i : Nat) (m : T) (hh : h ≤ 8) (hi : i < 2 ^ h) : rootOf m i (sigV sec i m) (pathV sec h i) = rootV sec h := by
  unfold rootOf rootV
  rw [ends_sig, path_len]
  show climbUp i _ (keyV sec i) h = _
  rw [climb_path sec h i hh hi h (Nat.le_refl _), Nat.div_eq_of_lt hi]
theorem chain_is (n : Nat) (s : T) (h : Dig.isB s.data.toList = true) : Dig.isB (chainV n s).data.toList = true := by
  cases n with
  | zero => exact h
  | succ n => exact dg_is _
theorem sig_is (sec : T) (i : Nat) (m : T) : ((sigV sec i m).all fun s => Dig.isB s.data.toList) = true := by
  refine List.all_eq_true.2 fun s hs => ?_
  obtain ⟨k, _, rfl⟩ := List.mem_map.1 hs
  exact chain_is _ _ (lst_is _)
theorem level_is (sec : T) (h n : Nat) : ∀ s ∈ level sec h n, Dig.isB s.data.toList = true := by
  intro s hs
  cases n with
  | zero =>
    obtain ⟨q, _, rfl⟩ := List.mem_map.1 hs
    exact lst_is _
  | succ n =>
    obtain ⟨q, _, rfl⟩ := List.mem_map.1 hs
    exact lst_is _
theorem path_is (sec : T) (h i : Nat) (hh : h ≤ 8) (hi : i < 2 ^ h) : ((pathV sec h i).all fun s => Dig.isB s.data.toList) = true := by
  refine List.all_eq_true.2 fun s hs => ?_
  obtain ⟨n, hn, rfl⟩ := List.mem_map.1 hs
  have hn' := List.mem_range.1 hn
  have hl : (i / 2 ^ n) ^^^ 1 < (level sec h n).length := by
    rw [level_len sec h n (by omega)]
    exact xor_lt _ _ (by omega) (by omega) (div_lt i h n hi (by omega))
  rw [at_get hl]
  exact level_is sec h n _ (List.getElem_mem hl)
theorem root_is (sec : T) (h : Nat) : Dig.isB (rootV sec h).data.toList = true := by
  have hl : 0 < (level sec h h).length := by rw [level_len sec h h (Nat.le_refl _), Nat.sub_self]; decide
  unfold rootV
  rw [at_get hl]
  exact level_is sec h h _ (List.getElem_mem hl)
theorem form_sig (sec : T) (h i : Nat) (m : T) (hh : h ≤ 8) (hi : i < 2 ^ h) : formB (i : Int) (sigV sec i m) (pathV sec h i) = true := by
  unfold formB
  rw [sig_is, path_is sec h i hh hi, sig_len, path_len, decide_eq_true hh, decide_eq_true (show (0 : Int) ≤ i by omega), decide_eq_true (show (i : Int) < ((2 ^ h : Nat) : Int) by omega)]
  rfl
theorem verify_sig (sec : T) (h i : Nat) (m : T) (hh : h ≤ 8) (hi : i < 2 ^ h) : verifyB (rootV sec h) m (i : Int) (sigV sec i m) (pathV sec h i) = true := by
  unfold verifyB
  rw [form_sig sec h i m hh hi, Int.toNat_natCast, root_sig sec h i m hh hi]
  simp
theorem climb_size (i : Nat) (path : List T) (a : T) (ha : a.size = 16) : ∀ n, (climbUp i path a n).size = 16
  | 0 => ha
  | n + 1 => by
    show (if _ then _ else _ : T).size = 16
    split <;> exact lst_size _
theorem climb_is (i : Nat) (path : List T) (a : T) (ha : Dig.isB a.data.toList = true) : ∀ n, Dig.isB (climbUp i path a n).data.toList = true
  | 0 => ha
  | n + 1 => by
    show Dig.isB ((if _ then _ else _ : T)).data.toList = true
    split <;> exact lst_is _
theorem rootOf_is (m : T) (i : Nat) (sig path : List T) : Dig.isB (rootOf m i sig path).data.toList = true := climb_is _ _ _ (lst_is _) _
theorem rootOf_size (m : T) (i : Nat) (sig path : List T) : (rootOf m i sig path).size = 16 := climb_size _ _ _ (lst_size _) _

end Sgn
def pathUp (sec : ByteArray) (h idx n : Nat) : List ByteArray := (List.range n).map fun q => Sgn.at_ (Sgn.level sec h q) ((idx / 2 ^ q) ^^^ 1)
theorem pathUp_succ (sec : ByteArray) (h idx n : Nat) : pathUp sec h idx (n + 1) = pathUp sec h idx n ++ [Sgn.at_ (Sgn.level sec h n) ((idx / 2 ^ n) ^^^ 1)] := by
  unfold pathUp
  rw [List.range_succ, List.map_append]
  rfl
end Go.Proofs.YtfnbdjjobndgfaaDoor
