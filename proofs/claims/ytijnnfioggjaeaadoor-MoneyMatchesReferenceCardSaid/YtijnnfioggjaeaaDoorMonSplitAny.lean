/- money.Split at any amount and weights. -/
import Derived.Test.YtijnnfioggjaeaaDoorMonSplit
namespace Go.Proofs.YtijnnfioggjaeaaDoor
open Go.RowKit

/-- Whether Split divides, its shares, its error. -/
def Mon.splitB (n : Int) (zs : List Int) : Bool := Mon.totB zs && Mon.amtB n
def Mon.splitV (n : Int) (zs : List Int) : List Int := if Mon.splitB n zs then shares n zs.sum zs else []
def Mon.splitE (n : Int) (zs : List Int) : Int := if Mon.splitB n zs then 0 else 1
theorem Mon.splitB_iff {n : Int} {zs : List Int} : Mon.splitB n zs = true ↔ (zs.length ≤ 16 ∧ (∀ z ∈ zs, 0 ≤ z ∧ z ≤ 9999999) ∧ 0 < zs.sum) ∧ 0 ≤ n ∧ n ≤ 1000000000000 := by
  unfold Mon.splitB Mon.totB
  rw [Bool.and_eq_true, Bool.and_eq_true, Mon.ok_iff, Mon.amt_iff, decide_eq_true_eq]
  constructor
  · rintro ⟨⟨⟨h1, h2⟩, h3⟩, h4⟩; exact ⟨⟨h1, h2, h3⟩, h4⟩
  · rintro ⟨⟨h1, h2, h3⟩, h4⟩; exact ⟨⟨⟨h1, h2⟩, h3⟩, h4⟩
theorem shares_len (n s : Int) (zs : List Int) : (shares n s zs).length = zs.length := by simp [shares]
theorem mem_le_sum {zs : List Int} (h : ∀ z ∈ zs, 0 ≤ z ∧ z ≤ 9999999) : ∀ z ∈ zs, z ≤ zs.sum := by
  induction zs with
  | nil => intro z hz; cases hz
  | cons a l ih =>
    intro z hz
    have h1 := (Mon.sum_bd l fun x hx => h x (by simp [hx])).1
    have h2 := h a (by simp)
    simp only [List.sum_cons]
    rcases List.mem_cons.1 hz with rfl | hz
    · omega
    · have := ih (fun x hx => h x (by simp [hx])) z hz; omega

set_option maxHeartbeats 2000000 in
theorem split_no (n : Int) (zs : List Int) (hn : zs.length ≤ 140737488351232) (hbad : Mon.splitB n zs = false) (ao : Option Addr) (cap : Nat) (w : World) (hz : IsInts w ao zs) :
    Calls Tryd.prog 6 #[.int .i64 n, .slice ao zs.length cap] w fun e w' => e = .returned (.tuple #[.slice none 0 0, .int .i64 1]) ∧ w = w' := by
  have HT := Lib.hid (total_any zs hn ao cap w hz)
  have HA := Lib.hid (fun w => isAmount_any n w)
  obtain ⟨len, Hl⟩ : ∃ len, Hid (len = zs.length) := ⟨_, Lib.hid rfl⟩
  obtain ⟨t, Ht⟩ : ∃ t, Hid (t = Mon.totV zs) := ⟨_, Lib.hid rfl⟩
  rw [← Hl.out, ← Ht.out] at HT
  rw [← Hl.out]
  unfold Mon.splitB at hbad
  clear hn hz
  cases htb : Mon.totB zs
  · rw [htb] at HT
    clear hbad htb
    go_enter Tryd.func6, Tryd.ntmps6
    go_wp2_with fail
    refine HT.out.mono ?_
    rintro e _ ⟨rfl, rfl⟩
    go_wp2
    go_ret2
    exact ⟨rfl, rfl⟩
  · rw [htb] at HT hbad
    have hab : Mon.amtB n = false := by simpa using hbad
    rw [hab] at HA
    clear hbad htb hab
    go_enter Tryd.func6, Tryd.ntmps6
    go_wp2_with fail
    refine HT.out.mono ?_
    rintro e _ ⟨rfl, rfl⟩
    go_wp2_with fail
    refine (HA.out _).mono ?_
    rintro e _ ⟨rfl, rfl⟩
    go_wp2
    go_ret2
    exact ⟨rfl, rfl⟩

theorem split_any (n : Int) (zs : List Int) (hn : zs.length ≤ 140737488351232) (ao : Option Addr) (cap : Nat) (w : World) (hz : IsInts w ao zs) :
    Calls Tryd.prog 6 #[.int .i64 n, .slice ao zs.length cap] w
      fun e w' => ∃ ao' cap', e = .returned (.tuple #[.slice ao' (Mon.splitV n zs).length cap', .int .i64 (Mon.splitE n zs)]) ∧ Below w.heap.size w w' ∧ IsInts w' ao' (Mon.splitV n zs) := by
  unfold Mon.splitV Mon.splitE
  cases hb : Mon.splitB n zs
  · rw [if_neg (by simp), if_neg (by simp)]
    exact (split_no n zs hn hb ao cap w hz).mono fun e w' ⟨h1, h2⟩ => ⟨none, 0, h1, h2 ▸ Below.refl _ _, Or.inl rfl⟩
  · rw [if_pos rfl, if_pos rfl]
    obtain ⟨⟨h1, h2, h3⟩, h4, h5⟩ := Mon.splitB_iff.1 hb
    have hle := mem_le_sum h2
    have hbd := Mon.sum_bd zs h2
    have hpos : 1 ≤ zs.length := by
      cases zs with
      | nil => simp at h3
      | cons a l => simp
    rcases hz with rfl | ⟨bk, off, rfl, hbk, hc⟩
    · simp at hpos
    have hT := total_any zs hn (some ⟨bk, off, none⟩) cap w (Or.inr ⟨bk, off, rfl, hbk, hc⟩)
    have e1 : Mon.totB zs = true := by unfold Mon.splitB at hb; rw [Bool.and_eq_true] at hb; exact hb.1
    have e2 : Mon.totV zs = zs.sum := by unfold Mon.totV; rw [if_pos (Mon.ok_iff.2 ⟨h1, h2⟩)]
    rw [e1, e2] at hT
    refine (split_good n zs.sum zs zs.length rfl hpos h1 ⟨h4, h5⟩ h2 ⟨by omega, by omega⟩ hle bk off cap w hbk (fun j hj => by rw [hc j hj, List.getElem?_eq_getElem hj]; rfl) (Lib.hid hT) (Mon.amt_iff.2 ⟨h4, h5⟩)).mono ?_
    · rintro e w' ⟨g, cp, rfl, hb2, hg, hr⟩
      refine ⟨some ⟨g, 0, none⟩, cp, by rw [shares_len], hb2, Or.inr ⟨g, 0, rfl, ?_, fun k hk => by rw [Nat.zero_add]; exact (hr k hk).1⟩⟩
      exact lt_of_cell (hr 0 (by rw [shares_len]; exact hpos)).1
example : Mon.splitV 100 [1, 1, 1] = [34, 33, 33] := by decide +kernel

end Go.Proofs.YtijnnfioggjaeaaDoor
