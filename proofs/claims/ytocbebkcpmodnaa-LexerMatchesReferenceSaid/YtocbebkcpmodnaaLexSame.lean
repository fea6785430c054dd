/- The reference's Same, where it is true. -/
import Derived.Test.YtocbebkcpmodnaaLexHead
import Derived.BigQuiet
import Derived.Test.YtocbebkcpmodnaaLexBsrW
namespace Go.Proofs.Ytocbebkcpmodnaa
open Go.RowKit

/-- A row of tokens in memory, from an address on. -/
def TokRow (W : World) (p : Option Addr) (l : List Lex.Tk) : Prop := ∀ (j k : Nat) (t : List UInt8) (a : Nat), l[j]? = some (k, t, a) → ∃ g off, p = some ⟨g, off, none⟩ ∧ g < W.heap.size ∧ W.cell? ⟨g, off + j * 3, none⟩ = some (.int .i64 k) ∧ W.cell? ⟨g, off + j * 3 + 1, none⟩ = some (.string ⟨t.toArray⟩) ∧ W.cell? ⟨g, off + j * 3 + 2, none⟩ = some (.int .i64 a)

set_option maxRecDepth 100000 in
set_option maxHeartbeats 4000000 in
theorem same_true (pa pb : Option Addr) (ca cb : Nat) (d : Nat) (hd9 : d ≤ 100000) (l : List Lex.Tk) (hla : ∀ x ∈ l, x.2.2 ≤ 100000) (hln : l.length ≤ 100000) (W : World) (ha : TokRow W pa l) (hb : TokRow W pb (l.map fun x => (x.1, x.2.1, x.2.2 + d))) :
    Calls Try.prog 14 #[.slice pa l.length ca, .int .i64 (d : Int), .slice pb l.length cb] W fun e w' => e = .returned (.bool true) ∧ Below W.heap.size W w' := by
  have HA := Lib.hid ha
  have HB := Lib.hid hb
  have HLA := Lib.hid hla
  clear ha hb hla
  obtain ⟨n, Hn⟩ : ∃ n, Hid (n = l.length) := ⟨_, Lib.hid rfl⟩
  rw [← Hn.out] at hln
  rw [← Hn.out]
  go_enter Try.func14, Try.ntmps14
  go_wp2_with fail
  go_loopw [7] (fun i wr => ∃ k : Nat, k ≤ n ∧ i = .int .i64 k ∧ Hid (Below W.heap.size W wr)) (fun i _ => n - (intOf i).toNat)
  case atStart => exact ⟨0, Nat.zero_le _, by go_num, Lib.hid (Below.refl _ _)⟩
  case round =>
    obtain ⟨k, hk, rfl, HR⟩ := hrel
    by_cases hkn : k < n
    · have hd : decide ((k : Int) < n) = true := decide_eq_true (by omega)
      have hb0 : (0 : Int) ≤ k := by omega
      have hb1 : (k : Int) < n := by omega
      have hkl : k < l.length := by rw [← Hn.out]; exact hkn
      obtain ⟨⟨kk, t, a⟩, hx⟩ : ∃ x, l[k]? = some x := ⟨_, List.getElem?_eq_getElem hkl⟩
      have ha9 : a ≤ 100000 := HLA.out (kk, t, a) (List.mem_of_getElem? hx)
      obtain ⟨g, off, rfl, hg, a0, a1, a2⟩ := HA.out k kk t a hx
      obtain ⟨g', off', rfl, hg', b0, b1, b2⟩ := HB.out k kk t (a + d) (by rw [List.getElem?_map, hx]; rfl)
      obtain ⟨X, HX⟩ : ∃ X : ByteArray, Hid (X = ⟨t.toArray⟩) := ⟨_, Lib.hid rfl⟩
      rw [← HX.out] at a1 b1
      replace a0 := (cell_below HR.out hg _).trans a0
      replace a1 := (cell_below HR.out hg _).trans a1
      replace a2 := (cell_below HR.out hg _).trans a2
      replace b0 := (cell_below HR.out hg' _).trans b0
      replace b1 := (cell_below HR.out hg' _).trans b1
      replace b2 := (cell_below HR.out hg' _).trans b2
      have hgr : g < wr.heap.size := Nat.lt_of_lt_of_le hg HR.out.size
      have hgr' : g' < wr.heap.size := Nat.lt_of_lt_of_le hg' HR.out.size
      have hWr := HR.out.size
      clear hx
      rw [Int.natCast_add] at b2
      go_wp2_with fail
      obtain ⟨v, Hv⟩ : ∃ v, Hid (v = wr.alloc (.cells #[.int .i64 kk, .string X, .int .i64 ((a : Int) + d)] 31)) := ⟨_, Lib.hid rfl⟩
      have HBv : Hid (Below W.heap.size W v) := Lib.hid (by rw [Hv.out]; exact HR.out.alloc hWr _)
      have hbv : Below wr.heap.size wr v := by rw [Hv.out]; exact (Below.refl _ _).alloc (Nat.le_refl _) _
      have hwv : Whole v wr.heap.size 31 #[.int .i64 kk, .string X, .int .i64 ((a : Int) + d)] := by rw [Hv.out]; exact Whole.new _ _ _
      have c0 : v.cell? ⟨wr.heap.size, 0, none⟩ = some (.int .i64 kk) := hwv.cell 0
      have c1 : v.cell? ⟨wr.heap.size, 1, none⟩ = some (.string X) := hwv.cell 1
      have c2 : v.cell? ⟨wr.heap.size, 2, none⟩ = some (.int .i64 ((a : Int) + d)) := hwv.cell 2
      replace b0 := (cell_below hbv hgr' _).trans b0
      replace b1 := (cell_below hbv hgr' _).trans b1
      replace b2 := (cell_below hbv hgr' _).trans b2
      rw [← Hv.out]
      clear hwv hbv a0 a1 a2 hgr hgr' hWr HR
      go_quiet (fail)
      go_wp2_with fail
      go_round
      case rel => exact ⟨k + 1, by omega, by go_num, Lib.hid (HBv.out.trans ((below_drewN v nq).mono HBv.out.size))⟩
      case measure => simp [intOf]; omega
    · have hd : decide ((k : Int) < n) = false := decide_eq_false (by omega)
      go_wp2_with fail
      go_ret
      exact ⟨rfl, HR.out⟩

end Go.Proofs.Ytocbebkcpmodnaa
