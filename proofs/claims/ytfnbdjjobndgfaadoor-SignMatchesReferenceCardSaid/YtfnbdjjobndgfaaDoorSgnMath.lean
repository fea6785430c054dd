/- Chains, one-time keys and trees as values. -/
import Derived.Test.YtfnbdjjobndgfaaDoorSgLists
namespace Go.Proofs.YtfnbdjjobndgfaaDoor
namespace Sgn

abbrev T := ByteArray
def none : T := ⟨#[]⟩
def dg (s : T) : T := digestOf s.data.toList
def lst (ss : List T) : T := digestOf (joinText (bytesOf ss))
def chainV : Nat → T → T
  | 0, s => s
  | n + 1, s => dg (chainV n s)
theorem chainV_add (a b : Nat) (s : T) : chainV (a + b) s = chainV b (chainV a s) := by
  induction b with
  | zero => rfl
  | succ b ih => show dg (chainV (a + b) s) = dg (chainV b (chainV a s)); rw [ih]
def decT (n : Nat) : T := ⟨(Lib.decDigits n).toArray⟩
def startV (sec : T) (i k : Nat) : T := lst [sec, decT i, decT k]
def endsV (sec : T) (i : Nat) : List T := (List.range 18).map fun k => chainV 15 (startV sec i k)
def keyV (sec : T) (i : Nat) : T := lst (endsV sec i)
def nodeT : T := ⟨#[110, 111, 100, 101]⟩
def nodeV (a b : T) : T := lst [nodeT, a, b]
def at_ (l : List T) (i : Nat) : T := l.getD i none
theorem at_get {l : List T} {i : Nat} (h : i < l.length) : at_ l i = l[i] := by
  unfold at_
  rw [List.getD_eq_getElem?_getD, List.getElem?_eq_getElem h]; rfl
def up (l : List T) : List T := (List.range (l.length / 2)).map fun i => nodeV (at_ l (2 * i)) (at_ l (2 * i + 1))
theorem up_len (l : List T) : (up l).length = l.length / 2 := by simp [up]
def level (sec : T) (h : Nat) : Nat → List T
  | 0 => (List.range (2 ^ h)).map (keyV sec)
  | n + 1 => up (level sec h n)
theorem level_len (sec : T) (h : Nat) : ∀ n, n ≤ h → (level sec h n).length = 2 ^ (h - n)
  | 0, _ => by simp [level]
  | n + 1, hn => by
    show (up (level sec h n)).length = _
    rw [up_len, level_len sec h n (by omega), show h - n = (h - (n + 1)) + 1 by omega, Nat.pow_succ]
    omega
def rootV (sec : T) (h : Nat) : T := at_ (level sec h h) 0
/-- What a hexadecimal digit stands for. -/
def valN (c : UInt8) : Nat := if 97 ≤ c.toNat then c.toNat - 97 + 10 else c.toNat - 48
theorem valN_hex {c : UInt8} (h : Dig.isHex c = true) : valN c ≤ 15 := by
  have := of_decide_eq_true h
  unfold valN
  split <;> omega
def vals (m : T) : List Nat := (dg m).data.toList.map valN
def restTo (l : List Nat) : Nat := l.foldl (fun s d => s + (15 - d)) 0
theorem restTo_snoc (l : List Nat) (d : Nat) : restTo (l ++ [d]) = restTo l + (15 - d) := by simp [restTo]
theorem restTo_le : ∀ l : List Nat, restTo l ≤ 15 * l.length := by
  intro l
  suffices hs : ∀ (l : List Nat) (s : Nat), l.foldl (fun s d => s + (15 - d)) s ≤ s + 15 * l.length by
    have := hs l 0
    unfold restTo
    omega
  intro l
  induction l with
  | nil => intro s; simp
  | cons d t ih =>
    intro s
    have := ih (s + (15 - d))
    simp only [List.foldl_cons, List.length_cons]
    omega
def digitsV (m : T) : List Nat := vals m ++ [restTo (vals m) / 16, restTo (vals m) % 16]
theorem dg_size (s : T) : (dg s).size = 16 := digestOf_size _
theorem lst_size (ss : List T) : (lst ss).size = 16 := digestOf_size _
theorem dg_is (s : T) : Dig.isB (dg s).data.toList = true := by
  unfold dg
  rw [digestOf_data]
  exact Dig.isB_hex _
theorem lst_is (ss : List T) : Dig.isB (lst ss).data.toList = true := by
  unfold lst
  rw [digestOf_data]
  exact Dig.isB_hex _
theorem isB_parts {l : List UInt8} (h : Dig.isB l = true) : l.length = 16 ∧ ∀ c ∈ l, Dig.isHex c = true := by
  unfold Dig.isB at h
  rw [Bool.and_eq_true, List.all_eq_true, decide_eq_true_eq] at h
  exact ⟨h.2, h.1⟩
theorem vals_len (m : T) : (vals m).length = 16 := by
  unfold vals
  rw [List.length_map]
  exact dg_size m
theorem vals_le (m : T) : ∀ d ∈ vals m, d ≤ 15 := by
  intro d hd
  obtain ⟨c, hc, rfl⟩ := List.mem_map.1 hd
  exact valN_hex ((isB_parts (dg_is m)).2 c hc)
theorem digitsV_len (m : T) : (digitsV m).length = 18 := by
  unfold digitsV
  rw [List.length_append, vals_len]
  rfl
theorem digitsV_le (m : T) : ∀ d ∈ digitsV m, d ≤ 15 := by
  intro d hd
  have h1 := restTo_le (vals m)
  rw [vals_len] at h1
  rcases List.mem_append.1 hd with hd | hd
  · exact vals_le m d hd
  · simp only [List.mem_cons, List.not_mem_nil, or_false] at hd
    rcases hd with rfl | rfl <;> omega
def dAt (m : T) (k : Nat) : Nat := (digitsV m).getD k 0
theorem dAt_le (m : T) (k : Nat) : dAt m k ≤ 15 := by
  unfold dAt
  by_cases h : k < (digitsV m).length
  · rw [List.getD_eq_getElem?_getD, List.getElem?_eq_getElem h]
    exact digitsV_le m _ (List.getElem_mem h)
  · rw [List.getD_eq_getElem?_getD, List.getElem?_eq_none (by omega)]
    simp
def sigV (sec : T) (i : Nat) (m : T) : List T := (List.range 18).map fun k => chainV (dAt m k) (startV sec i k)
def pathV (sec : T) (h i : Nat) : List T := (List.range h).map fun n => at_ (level sec h n) ((i / 2 ^ n) ^^^ 1)
def endsOf (m : T) (sig : List T) : List T := (List.range 18).map fun k => chainV (15 - dAt m k) (at_ sig k)
/-- From a one-time key to the root. -/
def climbUp (i : Nat) (path : List T) (at0 : T) : Nat → T
  | 0 => at0
  | n + 1 => if i / 2 ^ n % 2 = 1 then nodeV (at_ path n) (climbUp i path at0 n) else nodeV (climbUp i path at0 n) (at_ path n)
def rootOf (m : T) (i : Nat) (sig path : List T) : T := climbUp i path (lst (endsOf m sig)) path.length
def formB (idx : Int) (sig path : List T) : Bool := decide (sig.length = 18) && decide (path.length ≤ 8) && sig.all (fun s => Dig.isB s.data.toList) && path.all (fun s => Dig.isB s.data.toList) && decide (0 ≤ idx) && decide (idx < (2 ^ path.length : Nat))
def verifyB (pub m : T) (idx : Int) (sig path : List T) : Bool := formB idx sig path && decide (rootOf m idx.toNat sig path = pub)

end Sgn
end Go.Proofs.YtfnbdjjobndgfaaDoor
