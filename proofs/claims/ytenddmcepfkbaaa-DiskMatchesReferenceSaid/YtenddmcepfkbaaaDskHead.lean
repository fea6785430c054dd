/- The walk of the statements' fixed examples on disks. -/
import Derived.Test.YtenddmcepfkbaaaDskSt
namespace Go.Proofs.Ytenddmcepfkbaaa
open Go.RowKit

def hdA : ByteArray := textV false ⟨#[97]⟩
def hdB : ByteArray := textV false ⟨#[98]⟩
def hdZ : ByteArray := textV false ⟨#[0]⟩
def hdShort : ByteArray := ⟨#[115, 104, 111, 114, 116]⟩
def hdS : ByteArray := ⟨#[98, 98]⟩ ++ hdA.extract 2 hdA.size
def hdY : ByteArray := ⟨#[97, 98]⟩ ++ hdA.extract 2 hdA.size
theorem hdA_size : hdA.size = 64 := by decide +kernel
theorem hdB_size : hdB.size = 64 := by decide +kernel

def d0 : Dsk.Dk := Dsk.zero 2
def d1 : Dsk.Dk := Dsk.writeD 2 d0 0 hdA
def d2 : Dsk.Dk := Dsk.syncD d1
def d3 : Dsk.Dk := Dsk.writeD 2 d2 0 hdB
def d4 : Dsk.Dk := Dsk.fail d3 0 2
def d5 : Dsk.Dk := Dsk.syncD d4
def d6 : Dsk.Dk := Dsk.startD d5
def x0 : Dsk.Dk := Dsk.zero 1
def x1 : Dsk.Dk := Dsk.writeD 1 x0 0 hdA
def x2 : Dsk.Dk := Dsk.syncD x1
def x3 : Dsk.Dk := Dsk.rotD 1 x2 0 1 3
def x4 : Dsk.Dk := Dsk.writeD 1 x3 0 hdB
def k1 : Dsk.Dk := Dsk.armD x0 1 1 2
def k2 : Dsk.Dk := Dsk.writeD 1 k1 0 hdA
def k3 : Dsk.Dk := Dsk.writeD 1 k2 0 hdB
def k4 : Dsk.Dk := Dsk.startD k3
namespace Hd
theorem e1 : Dsk.writeE 2 d0 0 hdA = 0 := by decide +kernel
theorem e2 : Dsk.syncE d1 = 0 := by decide +kernel
theorem e3 : Dsk.writeE 2 d2 0 hdB = 0 := by decide +kernel
theorem e4 : Dsk.readE 2 d3 0 = 0 := by decide +kernel
theorem v4 : Dsk.readV 2 d3 0 = hdB := by decide +kernel
theorem e5 : Dsk.syncE d4 = 18 := by decide +kernel
theorem e6 : Dsk.readE 2 d6 0 = 0 := by decide +kernel
theorem v6 : Dsk.readV 2 d6 0 = hdS := by decide +kernel
theorem e7 : Dsk.readE 2 d6 1 = 0 := by decide +kernel
theorem v7 : Dsk.readV 2 d6 1 = hdZ := by decide +kernel
theorem e8 : Dsk.readE 2 d6 2 = 1 := by decide +kernel
theorem v8 : Dsk.readV 2 d6 2 = ⟨#[]⟩ := by decide +kernel
theorem e9 : Dsk.writeE 2 d6 1 hdShort = 1 := by decide +kernel
theorem s9 : Dsk.writeD 2 d6 1 hdShort = d6 := rfl
theorem e10 : Dsk.writeE 1 x0 0 hdA = 0 := by decide +kernel
theorem e11 : Dsk.syncE x1 = 0 := by decide +kernel
theorem e12 : Dsk.readE 1 x3 0 = 0 := by decide +kernel
theorem v12 : Dsk.readV 1 x3 0 = hdY := by decide +kernel
theorem e13 : Dsk.writeE 1 x3 0 hdB = 0 := by decide +kernel
theorem v14 : (⟨x4.st.toArray⟩ : ByteArray) = hdY := by decide +kernel
theorem e15 : Dsk.writeE 1 k1 0 hdA = 0 := by decide +kernel
theorem e16 : Dsk.writeE 1 k2 0 hdB = 18 := by decide +kernel
theorem e17 : Dsk.readE 1 k4 0 = 0 := by decide +kernel
theorem v17 : Dsk.readV 1 k4 0 = hdS := by decide +kernel

end Hd

set_option maxRecDepth 100000 in
set_option maxHeartbeats 16000000 in
theorem head46_any (w : World) : Calls Try.prog 11 #[] w fun e w' => e = .returned (.bool true) ∧ Below w.heap.size w w' := by
  have HfA : Hid (∀ W, Calls Try.prog 28 #[.string ⟨#[97]⟩] W fun e w' => e = .returned (.string hdA) ∧ Below W.heap.size W w') := Lib.hid fun W => fill_any ⟨#[97]⟩ (by decide) W
  have HfB : Hid (∀ W, Calls Try.prog 28 #[.string ⟨#[98]⟩] W fun e w' => e = .returned (.string hdB) ∧ Below W.heap.size W w') := Lib.hid fun W => fill_any ⟨#[98]⟩ (by decide) W
  have HfZ : Hid (∀ W, Calls Try.prog 28 #[.string ⟨#[0]⟩] W fun e w' => e = .returned (.string hdZ) ∧ Below W.heap.size W w') := Lib.hid fun W => fill_any ⟨#[0]⟩ (by decide) W
  have hA2 : (2 : Int) ≤ (hdA.size : Int) := by rw [hdA_size]; decide
  have sz : Hid (hdA.size ≤ 9223372036854775807 ∧ hdB.size ≤ 9223372036854775807) := Lib.hid ⟨by rw [hdA_size]; decide, by rw [hdB_size]; decide⟩
  have qB : (hdB.toList == hdB.toList) = true := beq_self_eq_true _
  have qZ : (hdZ.toList == hdZ.toList) = true := beq_self_eq_true _
  have qY : (hdY.toList == hdY.toList) = true := beq_self_eq_true _
  have qS : (hdS.toList == ((⟨#[98, 98]⟩ : ByteArray) ++ hdA.extract 2 hdA.size).toList) = true := beq_self_eq_true _
  have qY2 : (hdY.toList == ((⟨#[97, 98]⟩ : ByteArray) ++ hdA.extract 2 hdA.size).toList) = true := beq_self_eq_true _
  go_enter Try.func11, Try.ntmps11
  go_wp2_with fail
  refine (new_any 2 (by decide) (by decide) _).mono ?_
  rintro e wn ⟨bd0, rfl, hb, hbn, bsd0, hbsn, hi⟩
  have HS : Hid (St 2 w (fun _ => False) wn bd0 bsd0 d0) := Lib.hid (St.new hb hi (fun k hk => by rcases hk with rfl | rfl | hk; exact hbn; exact hbsn; simp [Value.ownBlock] at hk))
  clear hb hbn hbsn hi
  go_wp2_with fail
  refine (HfA.out _).mono ?_
  rintro e wn ⟨rfl, hb⟩
  replace HS := Lib.hid (HS.out.below hb)
  clear hb
  go_wp2_with fail
  refine (HS.out.run (D' := d1) (fun pv h => by have := write_any h 0 hdA sz.out.1 (by decide +kernel) (by decide +kernel); rw [Hd.e1] at this; exact this)).mono ?_
  rintro e wn ⟨rfl, hs⟩
  replace HS := Lib.hid hs
  clear hs
  go_wp2_with fail
  refine (HS.out.run (D' := d2) (fun pv h => by have := sync_any h (by decide +kernel); rw [Hd.e2] at this; exact this)).mono ?_
  rintro e wn ⟨rfl, hs⟩
  replace HS := Lib.hid hs
  clear hs
  go_wp2_with fail
  refine (HfB.out _).mono ?_
  rintro e wn ⟨rfl, hb⟩
  replace HS := Lib.hid (HS.out.below hb)
  clear hb
  go_wp2_with fail
  refine (HS.out.run (D' := d3) (fun pv h => by have := write_any h 0 hdB sz.out.2 (by decide +kernel) (by decide +kernel); rw [Hd.e3] at this; exact this)).mono ?_
  rintro e wn ⟨rfl, hs⟩
  replace HS := Lib.hid hs
  clear hs
  go_wp2_with fail
  refine (HS.out.look (fun pv h => by have := read_any h 0; rw [Hd.e4, Hd.v4] at this; exact this)).mono ?_
  rintro e wn ⟨rfl, hs⟩
  replace HS := Lib.hid hs
  clear hs
  go_wp2_with fail
  refine (HS.out.run (D' := d4) (fun pv h => fail_any h 0 2)).mono ?_
  rintro e wn ⟨rfl, hs⟩
  replace HS := Lib.hid hs
  clear hs
  go_wp2_with fail
  refine (HS.out.run (D' := d5) (fun pv h => by have := sync_any h (by decide +kernel); rw [Hd.e5] at this; exact this)).mono ?_
  rintro e wn ⟨rfl, hs⟩
  replace HS := Lib.hid hs
  clear hs
  go_wp2_with fail
  refine (HS.out.run (D' := d6) (fun pv h => start_any h)).mono ?_
  rintro e wn ⟨rfl, hs⟩
  replace HS := Lib.hid hs
  clear hs
  go_wp2_with fail
  refine (HS.out.look (fun pv h => by have := read_any h 0; rw [Hd.e6, Hd.v6] at this; exact this)).mono ?_
  rintro e wn ⟨rfl, hs⟩
  replace HS := Lib.hid hs
  clear hs
  go_wp2_with fail
  refine (HS.out.look (fun pv h => by have := read_any h 1; rw [Hd.e7, Hd.v7] at this; exact this)).mono ?_
  rintro e wn ⟨rfl, hs⟩
  replace HS := Lib.hid hs
  clear hs
  go_wp2_with fail
  refine (HS.out.look (fun pv h => by have := read_any h 2; rw [Hd.e8, Hd.v8] at this; exact this)).mono ?_
  rintro e wn ⟨rfl, hs⟩
  replace HS := Lib.hid hs
  clear hs
  go_wp2_with fail
  refine (HS.out.run (D' := d6) (fun pv h => by have := write_any h 1 hdShort (by decide) (by decide +kernel) (by decide +kernel); rw [Hd.e9, Hd.s9] at this; exact this)).mono ?_
  rintro e wn ⟨rfl, hs⟩
  replace HS := Lib.hid hs
  clear hs
  go_wp2_with fail
  refine (fail_nil 1 1 _).mono ?_
  rintro e _ ⟨rfl, rfl⟩
  go_wp2_with fail
  refine (start_nil _).mono ?_
  rintro e _ ⟨rfl, rfl⟩
  go_wp2_with fail
  refine (arm_nil 0 1 1 _).mono ?_
  rintro e _ ⟨rfl, rfl⟩
  go_wp2_with fail
  refine (rot_nil 0 0 1 _).mono ?_
  rintro e _ ⟨rfl, rfl⟩
  go_wp2_with fail
  refine (new_any 1 (by decide) (by decide) _).mono ?_
  rintro e wn ⟨bx0, rfl, hb, hbn, bsx0, hbsn, hi⟩
  have hbw := HS.out.toBelow
  replace HS : Hid (St 1 w (fun _ => False) wn bx0 bsx0 x0) := Lib.hid (St.new (below_step hbw hb) hi (fun k hk => by have := hbw.size; rcases hk with rfl | rfl | hk; exact Nat.le_trans this hbn; exact Nat.le_trans this hbsn; simp [Value.ownBlock] at hk))
  clear hbw
  clear hb hbn hbsn hi
  go_wp2_with fail
  refine (HfA.out _).mono ?_
  rintro e wn ⟨rfl, hb⟩
  replace HS := Lib.hid (HS.out.below hb)
  clear hb
  go_wp2_with fail
  refine (HS.out.run (D' := x1) (fun pv h => by have := write_any h 0 hdA sz.out.1 (by decide +kernel) (by decide +kernel); rw [Hd.e10] at this; exact this)).mono ?_
  rintro e wn ⟨rfl, hs⟩
  replace HS := Lib.hid hs
  clear hs
  go_wp2_with fail
  refine (HS.out.run (D' := x2) (fun pv h => by have := sync_any h (by decide +kernel); rw [Hd.e11] at this; exact this)).mono ?_
  rintro e wn ⟨rfl, hs⟩
  replace HS := Lib.hid hs
  clear hs
  go_wp2_with fail
  refine (HS.out.run (D' := x3) (fun pv h => rot_any h 0 1 3)).mono ?_
  rintro e wn ⟨rfl, hs⟩
  replace HS := Lib.hid hs
  clear hs
  go_wp2_with fail
  refine (HS.out.look (fun pv h => by have := read_any h 0; rw [Hd.e12, Hd.v12] at this; exact this)).mono ?_
  rintro e wn ⟨rfl, hs⟩
  replace HS := Lib.hid hs
  clear hs
  go_wp2_with fail
  refine (HfB.out _).mono ?_
  rintro e wn ⟨rfl, hb⟩
  replace HS := Lib.hid (HS.out.below hb)
  clear hb
  go_wp2_with fail
  refine (HS.out.run (D' := x4) (fun pv h => by have := write_any h 0 hdB sz.out.2 (by decide +kernel) (by decide +kernel); rw [Hd.e13] at this; exact this)).mono ?_
  rintro e wn ⟨rfl, hs⟩
  replace HS := Lib.hid hs
  clear hs
  go_wp2_with fail
  refine (HfA.out _).mono ?_
  rintro e wn ⟨rfl, hb⟩
  replace HS := Lib.hid (HS.out.below hb)
  clear hb
  go_wp2_with fail
  refine (HS.out.still (fun pv h => by have := raw_any h; rw [Hd.v14] at this; exact this)).mono ?_
  rintro e wn ⟨rfl, hs⟩
  replace HS := Lib.hid hs
  clear hs
  go_wp2_with fail
  refine (raw_nil _).mono ?_
  rintro e _ ⟨rfl, rfl⟩
  go_wp2_with fail
  refine (new_any 1 (by decide) (by decide) _).mono ?_
  rintro e wn ⟨bk, rfl, hb, hbn, bsk, hbsn, hi⟩
  have hbw := HS.out.toBelow
  replace HS : Hid (St 1 w (fun _ => False) wn bk bsk x0) := Lib.hid (St.new (below_step hbw hb) hi (fun k hk => by have := hbw.size; rcases hk with rfl | rfl | hk; exact Nat.le_trans this hbn; exact Nat.le_trans this hbsn; simp [Value.ownBlock] at hk))
  clear hbw hb hbn hbsn hi
  go_wp2_with fail
  refine (HS.out.run (D' := k1) (fun pv h => arm_any h 1 1 2)).mono ?_
  rintro e wn ⟨rfl, hs⟩
  replace HS := Lib.hid hs
  clear hs
  go_wp2_with fail
  refine (HfA.out _).mono ?_
  rintro e wn ⟨rfl, hb⟩
  replace HS := Lib.hid (HS.out.below hb)
  clear hb
  go_wp2_with fail
  refine (HS.out.run (D' := k2) (fun pv h => by have := write_any h 0 hdA sz.out.1 (by decide +kernel) (by decide +kernel); rw [Hd.e15] at this; exact this)).mono ?_
  rintro e wn ⟨rfl, hs⟩
  replace HS := Lib.hid hs
  clear hs
  go_wp2_with fail
  refine (HfB.out _).mono ?_
  rintro e wn ⟨rfl, hb⟩
  replace HS := Lib.hid (HS.out.below hb)
  clear hb
  go_wp2_with fail
  refine (HS.out.run (D' := k3) (fun pv h => by have := write_any h 0 hdB sz.out.2 (by decide +kernel) (by decide +kernel); rw [Hd.e16] at this; exact this)).mono ?_
  rintro e wn ⟨rfl, hs⟩
  replace HS := Lib.hid hs
  clear hs
  go_wp2_with fail
  refine (HS.out.run (D' := k4) (fun pv h => start_any h)).mono ?_
  rintro e wn ⟨rfl, hs⟩
  replace HS := Lib.hid hs
  clear hs
  go_wp2_with fail
  refine (HS.out.look (fun pv h => by have := read_any h 0; rw [Hd.e17, Hd.v17] at this; exact this)).mono ?_
  rintro e wn ⟨rfl, hs⟩
  replace HS := Lib.hid hs
  clear hs
  go_wp2_with fail
  refine (HfA.out _).mono ?_
  rintro e wn ⟨rfl, hb⟩
  replace HS := Lib.hid (HS.out.below hb)
  clear hb
  go_wp2_with fail
  refine (HfB.out _).mono ?_
  rintro e wn ⟨rfl, hb⟩
  replace HS := Lib.hid (HS.out.below hb)
  clear hb
  go_wp2_with fail
  refine (HfA.out _).mono ?_
  rintro e wn ⟨rfl, hb⟩
  replace HS := Lib.hid (HS.out.below hb)
  clear hb
  go_wp2_with fail
  refine (HfZ.out _).mono ?_
  rintro e wn ⟨rfl, hb⟩
  replace HS := Lib.hid (HS.out.below hb)
  clear hb
  go_wp2_with fail
  refine (sync_nil _).mono ?_
  rintro e _ ⟨rfl, rfl⟩
  go_wp2_with fail
  refine (HfA.out _).mono ?_
  rintro e wn ⟨rfl, hb⟩
  replace HS := Lib.hid (HS.out.below hb)
  clear hb
  go_wp2_with fail
  refine (write_nil 0 hdA _).mono ?_
  rintro e _ ⟨rfl, rfl⟩
  go_wp2_with fail
  refine (new_no 0 (by decide) _).mono ?_
  rintro e _ ⟨rfl, rfl⟩
  go_wp2_with fail
  refine (new_no 8001 (by decide) _).mono ?_
  rintro e _ ⟨rfl, rfl⟩
  go_wp2
  go_ret
  exact ⟨rfl, HS.out.toBelow⟩

end Go.Proofs.Ytenddmcepfkbaaa
