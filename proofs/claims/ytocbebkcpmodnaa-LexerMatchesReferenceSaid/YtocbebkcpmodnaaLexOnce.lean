/- strings.NewReplacer's one building of its table: sync.Once, not yet done, the lock free. -/
import Derived.Test.YtocbebkcpmodnaaLexRd
import Derived.Laws.NewBlocks
import Derived.Tactics2
import Derived.Defers
import Derived.Laws.Pointers
import Derived.Laws.LoneSync
import Derived.RegionTactic
import Derived.RegionCalls
import Derived.ChangeAlike
namespace Go.Proofs.Ytocbebkcpmodnaa
open Go.RowKit

theorem race_disable (w : World) : (callFunc 66 #[]).run Try.prog w = .ok (.value (.tuple #[])) w := run_call_mark0 Try.func66 (by kernel_rfl) (by kernel_rfl) (by kernel_rfl) .disable (by kernel_rfl) w
theorem race_enable (w : World) : (callFunc 68 #[]).run Try.prog w = .ok (.value (.tuple #[])) w := run_call_mark0 Try.func68 (by kernel_rfl) (by kernel_rfl) (by kernel_rfl) .enable (by kernel_rfl) w
theorem race_acquire (a : Addr) (w : World) : (callFunc 69 #[.pointer (some a)]).run Try.prog w = .ok (.value (.tuple #[])) w := run_call_marked Try.func69 (by kernel_rfl) (by kernel_rfl) (by kernel_rfl) .acquire (by kernel_rfl) a w
theorem race_release (a : Addr) (w : World) : (callFunc 71 #[.pointer (some a)]).run Try.prog w = .ok (.value (.tuple #[])) w := run_call_marked Try.func71 (by kernel_rfl) (by kernel_rfl) (by kernel_rfl) .releaseMerge (by kernel_rfl) a w

set_option maxRecDepth 100000 in
theorem store_late (a : Addr) (x : Value) (u : FrameMode) (w : World) (hc : w.cell? a = some x) (hz : w.frozen? a = false) :
    CallsD Try.prog 55 #[.pointer (some a), .bool true] u w fun e u' w' => u' = u ∧ (e = .returned (.tuple #[]) ∧ w' = w.drew.setCell a (.int .u32 1)) := by
  have hc' : w.drew.cell? a = some x := by go_simp
  have hz' : w.drew.frozen? a = false := by go_simp
  have hst := run_call_store (P := Try.prog) Try.func61 (by kernel_rfl) (by kernel_rfl) (by kernel_rfl) (by kernel_rfl) (k := .u32) (y := 1) hc' hz'
  go_enter_d Try.func55, Try.ntmps55
  go_wp2
  go_region_calls
  all_goals (go_end0; exact ⟨rfl, rfl⟩)

set_option maxRecDepth 100000 in
theorem unlock_late (a : Addr) (u : FrameMode) (w : World) (hc : w.cell? a = some (.int .i32 1)) (hz : w.frozen? a = false) :
    CallsD Try.prog 54 #[.pointer (some a)] u w fun e u' w' => u' = u ∧ (e = .returned (.tuple #[]) ∧ w' = w.setCell a (.int .i32 0)) := by
  have hd := race_disable
  have he := race_enable
  have hr := race_release
  have hadd := run_call_add (P := Try.prog) Try.func72 (by kernel_rfl) (by kernel_rfl) (by kernel_rfl) .i32 (by kernel_rfl) (y := -1) (s := 0) hc hz (by simp [go_sem]; rfl)
  have hcv := run_convert_to_unsafe (P := Try.prog) (src := 125) (dst := 123) Try.underlying125 Try.underlying123 (by kernel_rfl) hc
  go_enter_d Try.func54, Try.ntmps54
  go_wp2
  go_end0
  go_wp2
  go_end0
  exact ⟨rfl, rfl⟩

set_option maxRecDepth 100000 in
theorem lock_now (a : Addr) (w : World) (hc : w.cell? a = some (.int .i32 0)) (hz : w.frozen? a = false) :
    Calls Try.prog 53 #[.pointer (some a)] w fun e w' => e = .returned (.tuple #[]) ∧ w' = w.setCell a (.int .i32 1) := by
  have hd := race_disable
  have he := race_enable
  have ha := race_acquire
  have hcas := run_call_cas_hit (P := Try.prog) Try.func67 (by kernel_rfl) (by kernel_rfl) (by kernel_rfl) .i32 (by kernel_rfl) (y := 1) hc hz
  have hc' : (w.setCell a (.int .i32 1)).cell? a = some (.int .i32 1) := World.cell?_setCell_same w a _ hc
  have hcv := run_convert_to_unsafe (P := Try.prog) (src := 125) (dst := 123) Try.underlying125 Try.underlying123 (by kernel_rfl) hc'
  go_enter Try.func53, Try.ntmps53
  go_wp2
  first | go_end0 | (simp only [Exit.inBlock, Exit.then]; refine bodyPost_ret (results_none rfl _ _ _) rfl ?_) | refine bodyPost_ret (results_none rfl _ _ _) rfl ?_
  go_wp2
  go_end0
  exact ⟨rfl, rfl⟩


/-- What building leaves, whatever is done to the once behind it. -/
structure OnceQ (R : Nat) (Q : Value → Value → World → Prop) : Prop where
  set : ∀ y3 y4 A i v, Q y3 y4 A → Q y3 y4 (A.setCell ⟨R, i, none⟩ v)
  drew : ∀ y3 y4 A, Q y3 y4 A → Q y3 y4 A.drew

set_option maxRecDepth 100000 in
set_option maxHeartbeats 1600000 in
theorem slow_once (R : Nat) (x3 x4 : Value) (Q : Value → Value → World → Prop) (hQ : OnceQ R Q) (w : World) (h : Whole w R 78 #[.int .u32 0, .int .i32 0, .int .u32 0, x3, x4])
    (hf : ∀ w1, w1 = w.setCell ⟨R, 1, none⟩ (.int .i32 1) → Calls Try.prog 41 #[.pointer (some ⟨R, 0, none⟩)] w1 fun e w2 => e = .returned (.tuple #[]) ∧ ∃ y3 y4, Whole w2 R 78 #[.int .u32 0, .int .i32 1, .int .u32 0, y3, y4] ∧ Q y3 y4 w2) :
    Calls Try.prog 47 #[.pointer (some ⟨R, 0, none⟩), .func (.func 41) #[.pointer (some ⟨R, 0, none⟩)] #[]] w fun e w' => e = .returned (.tuple #[]) ∧ ∃ y3 y4, Whole w' R 78 #[.int .u32 1, .int .i32 0, .int .u32 0, y3, y4] ∧ Q y3 y4 w' := by
  have H := Lib.hid h
  have HF := Lib.hid hf
  have h0 : w.cell? ⟨R, 0, none⟩ = some (.int .u32 0) := h.cell 0
  have h1 : w.cell? ⟨R, 1, none⟩ = some (.int .i32 0) := h.cell 1
  have f0 : w.frozen? ⟨R, 0, none⟩ = false := h.frozen 0
  have f1 : w.frozen? ⟨R, 1, none⟩ = false := h.frozen 1
  clear h hf
  have hl := run_call_load (P := Try.prog) Try.func52 (by kernel_rfl) (by kernel_rfl) (by kernel_rfl) .u32 (by kernel_rfl) (w := w.setCell ⟨R, 1, none⟩ (.int .i32 1)) (a := ⟨R, 0, none⟩) (x := 0) ((World.cell?_setCell_other _ ⟨R, 1, none⟩ ⟨R, 0, none⟩ _ (by simp)).trans h0)
  have hnot : ∀ (x : Bool) (w : World), (Op.unary .not (.bool x)).run Try.prog w = .ok (.bool (!x)) w := fun _ _ => rfl
  go_enter_defers Try.func47, Try.ntmps47
  go_wp2_with (first | (go_at_call 53; refine (lock_now ⟨R, 1, none⟩ _ h1 f1).mono ?_; rintro e w' ⟨rfl, rfl⟩) | (go_at_call 41; refine (HF.out _ rfl).mono ?_; rintro e w2 ⟨rfl, y3, y4, HW, Hq⟩; replace HW := Lib.hid HW; replace Hq := Lib.hid Hq) | (go_at_call 46; go_in))
  -- the two deferred calls
  refine leaves_cons (f := 55) (args := #[.pointer (some ⟨R, 0, none⟩), .bool true]) (by simp) (by simp [go_sem]) ?_
  refine (store_late ⟨R, 0, none⟩ (.int .u32 0) .returning _ (HW.out.cell 0) (HW.out.frozen 0)).mono ?_
  rintro e u' w'' ⟨rfl, rfl, rfl⟩
  refine leaves_cons (f := 54) (args := #[.pointer (some ⟨R, 1, none⟩)]) (by simp [settle]) (by simp [go_sem]) ?_
  refine (unlock_late ⟨R, 1, none⟩ _ _ ?_ ?_).mono ?_
  · exact (HW.out.drew.set 0 (.int .u32 1)).cell 1
  · exact (HW.out.drew.set 0 (.int .u32 1)).frozen 1
  rintro e u' w'' ⟨rfl, rfl, rfl⟩
  have hfin : ∃ y3 y4, Whole ((w2.drew.setCell ⟨R, 0, none⟩ (.int .u32 1)).setCell ⟨R, 1, none⟩ (.int .i32 0)) R 78 #[.int .u32 1, .int .i32 0, .int .u32 0, y3, y4] ∧ Q y3 y4 ((w2.drew.setCell ⟨R, 0, none⟩ (.int .u32 1)).setCell ⟨R, 1, none⟩ (.int .i32 0)) :=
    ⟨y3, y4, (HW.out.drew.set 0 _).set 1 _, hQ.set _ _ _ _ _ (hQ.set _ _ _ _ _ (hQ.drew _ _ _ Hq.out))⟩
  simp [Leaves, settle, results, Try.results47]
  exact hfin

set_option maxRecDepth 100000 in
set_option maxHeartbeats 1600000 in
theorem once_do (R : Nat) (x3 x4 : Value) (Q : Value → Value → World → Prop) (hQ : OnceQ R Q) (w : World) (h : Whole w R 78 #[.int .u32 0, .int .i32 0, .int .u32 0, x3, x4])
    (hf : ∀ w1, w1 = w.setCell ⟨R, 1, none⟩ (.int .i32 1) → Calls Try.prog 41 #[.pointer (some ⟨R, 0, none⟩)] w1 fun e w2 => e = .returned (.tuple #[]) ∧ ∃ y3 y4, Whole w2 R 78 #[.int .u32 0, .int .i32 1, .int .u32 0, y3, y4] ∧ Q y3 y4 w2) :
    Calls Try.prog 40 #[.pointer (some ⟨R, 0, none⟩), .func (.func 41) #[.pointer (some ⟨R, 0, none⟩)] #[]] w fun e w' => e = .returned (.tuple #[]) ∧ ∃ y3 y4, Whole w' R 78 #[.int .u32 1, .int .i32 0, .int .u32 0, y3, y4] ∧ Q y3 y4 w' := by
  have h0 : w.cell? ⟨R, 0, none⟩ = some (.int .u32 0) := h.cell 0
  have HS := Lib.hid (slow_once R x3 x4 Q hQ w h hf)
  clear h hf
  have hl := run_call_load (P := Try.prog) Try.func52 (by kernel_rfl) (by kernel_rfl) (by kernel_rfl) .u32 (by kernel_rfl) h0
  have hnot : ∀ (x : Bool) (w : World), (Op.unary .not (.bool x)).run Try.prog w = .ok (.bool (!x)) w := fun _ _ => rfl
  go_enter Try.func40, Try.ntmps40
  go_wp2_with (first | (go_at_call 47; refine HS.out.mono ?_; rintro e w' ⟨rfl, HW⟩; replace HW := Lib.hid HW) | (go_at_call 46; go_in))
  go_end0
  exact ⟨rfl, HW.out⟩

end Go.Proofs.Ytocbebkcpmodnaa
