/- The chapter's examples: what each text stands for. -/
import Derived.Test.YtbnofoncapaabaaGreatDoorEvtParM
import Derived.Test.YtbnofoncapaabaaGreatDoorEvNames
namespace Go.Proofs.YtbnofoncapaabaaGreatDoor
open Go.RowKit
open Evt

deriving instance DecidableEq for Evt.Ev
namespace Evt
def x1 : ByteArray := ⟨#[109, 97, 107, 101, 32, 48, 32, 97, 49, 32, 97, 120, 108, 101]⟩
def x2 : ByteArray := ⟨#[114, 117, 110, 32, 57, 32, 118, 49, 32, 49, 48, 32, 49, 50, 32, 51, 32, 51, 32, 48, 32, 53]⟩
def x3 : ByteArray := ⟨#[110, 111, 116, 101, 32, 57, 32, 97, 49, 32, 98, 97, 116, 99, 104, 32, 34, 55, 98, 34]⟩
def x4 : ByteArray := ⟨#[102, 105, 116, 32, 49, 32, 97, 49, 32, 97, 49, 32, 120]⟩
def x5 : ByteArray := ⟨#[109, 97, 107, 101, 32, 48, 48, 32, 97, 49, 32, 97, 120, 108, 101]⟩
def y1 : Ev := ⟨1, 0, ⟨#[97, 49]⟩, ⟨#[97, 120, 108, 101]⟩, emp, emp, emp, emp, 0, 0, 0, 0, 0, 0⟩
def y2 : Ev := ⟨4, 9, ⟨#[118, 49]⟩, emp, emp, emp, emp, emp, 10, 12, 3, 3, 0, 5⟩
def y3 : Ev := ⟨6, 9, ⟨#[97, 49]⟩, emp, emp, emp, ⟨#[98, 97, 116, 99, 104]⟩, ⟨#[55, 98]⟩, 0, 0, 0, 0, 0, 0⟩
theorem dig1 {n : Nat} (h : n < 10) : Lib.decDigits n = [UInt8.ofNat (48 + n)] := by rw [Lib.decDigits, dif_pos h]
theorem dig2 {n : Nat} (h : ¬ n < 10) (h2 : n / 10 < 10) : Lib.decDigits n = [UInt8.ofNat (48 + n / 10), UInt8.ofNat (48 + n % 10)] := by rw [Lib.decDigits, dif_neg h, dig1 h2]; rfl
theorem d0 : digs 0 = [48] := dig1 (by decide)
theorem d3 : digs 3 = [51] := dig1 (by decide)
theorem d5 : digs 5 = [53] := dig1 (by decide)
theorem d9 : digs 9 = [57] := dig1 (by decide)
theorem d10 : digs 10 = [49, 48] := dig2 (by decide) (by decide)
theorem d12 : digs 12 = [49, 50] := dig2 (by decide) (by decide)
theorem t1 : textE y1 = x1.data.toList := by
  unfold textE rowsE
  rw [show y1.day = 0 from rfl, d0]
  decide +kernel
theorem t2 : textE y2 = x2.data.toList := by
  unfold textE rowsE
  rw [show y2.day = 9 from rfl, show y2.k0 = 10 from rfl, show y2.k1 = 12 from rfl, show y2.c0 = 3 from rfl, show y2.c1 = 3 from rfl, show y2.d0 = 0 from rfl, show y2.d1 = 5 from rfl, d9, d10, d12, d3, d0, d5]
  decide +kernel
theorem t3 : textE y3 = x3.data.toList := by
  unfold textE rowsE
  rw [show y3.day = 9 from rfl, d9]
  decide +kernel
theorem vd {y : Ev} (h : (!decide (y.op < 1) && (!decide (7 < y.op) && (!decide (y.day < 0) && (!decide (40000 < y.day) && (nm y.part && okE y))))) = true) (hr : restOf y = zero) : valid y = true := by
  unfold valid
  rw [evEq_iff.2 hr]
  simpa using h
theorem v1 : valid y1 = true := vd (by decide +kernel) rfl
theorem v2 : valid y2 = true := vd (by decide +kernel) rfl
theorem v3 : valid y3 = true := vd (by decide +kernel) rfl
theorem p1 : parseE x1.data.toList = some y1 := by rw [← t1]; exact parse_text v1
theorem p2 : parseE x2.data.toList = some y2 := by rw [← t2]; exact parse_text v2
theorem p3 : parseE x3.data.toList = some y3 := by rw [← t3]; exact parse_text v3
theorem p4 : parseE x4.data.toList = none := by decide +kernel
theorem c5 : (match Lex.lex x5.data.toList with | .ok l => decide (candE l = y1) | .error _ => false) = true := by decide +kernel
theorem p5 : parseE x5.data.toList = none := by
  have h := c5
  unfold parseE
  cases hq : Lex.lex x5.data.toList with
  | error e => rfl
  | ok l =>
    rw [hq] at h
    dsimp only at h ⊢
    rw [of_decide_eq_true h, if_neg]
    rintro ⟨-, -, h2⟩
    rw [t1] at h2
    exact absurd h2 (by decide)
theorem sI {z : Int} (h : -9223372036854775808 ≤ z ∧ z ≤ 9223372036854775807) : I64 z := by
  unfold I64
  have h1 : IntKind.i64.min = -9223372036854775808 := by decide
  have h2 : IntKind.i64.max = 9223372036854775807 := by decide
  simp [Lit.wf, h1, h2]
  omega
theorem sS {s : ByteArray} (h : s.size ≤ 100) : St s := by unfold St; omega
theorem sz_y1 : Sz y1 := ⟨sI (by decide), sI (by decide), sS (by decide), sS (by decide), sS (by decide), sS (by decide), sS (by decide), sS (by decide), sI (by decide), sI (by decide), sI (by decide), sI (by decide), sI (by decide), sI (by decide)⟩
theorem sz_y2 : Sz y2 := ⟨sI (by decide), sI (by decide), sS (by decide), sS (by decide), sS (by decide), sS (by decide), sS (by decide), sS (by decide), sI (by decide), sI (by decide), sI (by decide), sI (by decide), sI (by decide), sI (by decide)⟩
theorem sz_y3 : Sz y3 := ⟨sI (by decide), sI (by decide), sS (by decide), sS (by decide), sS (by decide), sS (by decide), sS (by decide), sS (by decide), sI (by decide), sI (by decide), sI (by decide), sI (by decide), sI (by decide), sI (by decide)⟩
def y4 : Ev := ⟨2, 0, ⟨#[98]⟩, emp, ⟨#[97]⟩, ⟨#[120]⟩, emp, emp, 0, 0, 0, 0, 0, 0⟩
theorem sz_y4 : Sz y4 := ⟨sI (by decide), sI (by decide), sS (by decide), sS (by decide), sS (by decide), sS (by decide), sS (by decide), sS (by decide), sI (by decide), sI (by decide), sI (by decide), sI (by decide), sI (by decide), sI (by decide)⟩
theorem v4 : valid y4 = true := vd (by decide +kernel) rfl
theorem srt4 : srt [[98], [97]] = [[97], [98]] := by
  unfold srt
  simp [List.mergeSort, List.merge, List.MergeSort.Internal.splitInTwo]
  decide
theorem n4 : namesE y4 = [[97], [98]] := by
  unfold namesE
  rw [if_pos v4, if_pos (show y4.op = 2 from rfl)]
  exact srt4
end Evt
end Go.Proofs.YtbnofoncapaabaaGreatDoor
