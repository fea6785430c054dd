/- report.Text: the walk, from what event.Text gives at each of its events. -/
import Derived.Test.YtknphmkblcbabaaGreatDoorEvtText
namespace Go.Proofs.YtknphmkblcbabaaGreatDoor
open Go.RowKit Go.Sort
open Evt

namespace Evt
def headB (b : Bool) : ByteArray := if b then ⟨#[112, 101, 114, 104, 97, 112, 115]⟩ else ⟨#[115, 117, 114, 101]⟩
def lineE (e : Ev) : ByteArray := (⟨(textE e).toArray⟩ : ByteArray) ++ ⟨#[10]⟩
def bodyE (db : Bool) (l : List Ev) : ByteArray := l.foldl (fun s e => s ++ lineE e) (headB db ++ ⟨#[10]⟩)
def textR (r : Rp) : ByteArray := bodyE r.doubt r.opts
theorem bodyE_next (db : Bool) {l : List Ev} {k : Nat} (hk : k < l.length) : bodyE db (l.take (k + 1)) = bodyE db (l.take k) ++ lineE l[k] := by
  unfold bodyE
  rw [← List.take_append_getElem hk, List.foldl_append]
  rfl
theorem headB_size (b : Bool) : (headB b).size ≤ 7 := by cases b <;> decide
theorem bodyE_size (db : Bool) {l : List Ev} (h : ∀ e ∈ l, (textE e).length ≤ 1000000) : ∀ k, k ≤ l.length → (bodyE db (l.take k)).size ≤ 8 + k * 1000001
  | 0, _ => by
    have := headB_size db
    show (headB db ++ (⟨#[10]⟩ : ByteArray)).size ≤ _
    rw [ByteArray.size_append]
    have : (⟨#[10]⟩ : ByteArray).size = 1 := rfl
    omega
  | k + 1, hk => by
    have h1 := bodyE_size db h k (by omega)
    have h2 := h _ (List.getElem_mem (show k < l.length by omega))
    rw [bodyE_next db (show k < l.length by omega), ByteArray.size_append]
    have h3 : (lineE l[k]).size = (textE l[k]).length + 1 := by
      unfold lineE
      rw [ByteArray.size_append]
      rfl
    omega
end Evt
theorem repHead_any (b : Bool) (W : World) : Calls Tryz.prog 31 #[.bool b] W fun e w' => e = .returned (.string (headB b)) ∧ w' = W := by
  cases b <;>
  · go_enter Tryz.func31, Tryz.ntmps31
    go_wp2_with fail
    go_ret
    exact ⟨rfl, rfl⟩
set_option maxRecDepth 100000 in
set_option maxHeartbeats 8000000 in
theorem repText_good (r : Rp) (oo : Option Addr) (oc : Nat) (hc1 : r.opts.length ≤ oc) (hc2 : oc ≤ 9223372036854775807) (hv : validR r = true)
    (hE : ∀ e ∈ r.opts, (textE e).length ≤ 1000000 ∧ ∀ W, WTab W → Tab W → Calls Tryz.prog 34 #[.agg (evC e).toArray] W fun x w' => x = .returned (.tuple #[.string ⟨(textE e).toArray⟩, .int .i64 0]) ∧ Below W.heap.size W w')
    (W : World) (hT : WTab W) (ht : Tab W) (hi : IsL 14 ElEv W oo r.opts) :
    Calls Tryz.prog 17 #[.agg #[.slice oo r.opts.length oc, .bool r.doubt]] W fun e w' => e = .returned (.tuple #[.string (textR r), .int .i64 0]) ∧ Below W.heap.size W w' := by
  obtain ⟨l, db⟩ := r
  dsimp only at hc1 hi hE ⊢
  have HI := Lib.hid hi
  have HSp := Lib.hid ev_size
  have HE := Lib.hid hE
  have HT := Lib.hid (And.intro hT ht)
  have hn4 := (validR_len hv).2
  dsimp only at hn4
  obtain ⟨V, HV⟩ : ∃ w, Hid (w = W.alloc (.cells #[.slice oo l.length oc, .bool db] 31)) := ⟨_, Lib.hid rfl⟩
  obtain ⟨N, HN⟩ : ∃ N, Hid (N = W.heap.size) := ⟨_, Lib.hid rfl⟩
  have HB : Hid (Below W.heap.size W V) := Lib.hid (by rw [HV.out]; exact (Below.refl _ _).alloc (Nat.le_refl _) _)
  have HW : Hid (Whole V N 31 #[.slice oo l.length oc, .bool db]) := Lib.hid (by rw [HV.out, HN.out]; exact Whole.new _ _ _)
  have HC := Lib.hid (repValid_any ⟨l, db⟩ oo oc hc1 hc2 V (hi.below stEv HB.out))
  rw [hv] at HC
  dsimp only at HC
  obtain ⟨R, HR0⟩ : ∃ R, Hid (R = textR ⟨l, db⟩) := ⟨_, Lib.hid rfl⟩
  have HRe : Hid (R = bodyE db l) := Lib.hid (by rw [HR0.out]; rfl)
  rw [← HR0.out]
  obtain ⟨n, Hn⟩ : ∃ n, Hid (n = l.length) := ⟨_, Lib.hid rfl⟩
  rw [← Hn.out] at hn4 HC HV HW ⊢
  have HSz : Hid (∀ k, k ≤ n → (bodyE db (l.take k)).size ≤ 8 + k * 1000001) := Lib.hid (fun k hk => bodyE_size db (fun e he => (HE.out e he).1) k (by rw [← Hn.out]; exact hk))
  have HHd := Lib.hid (repHead_any db)
  obtain ⟨hd0, Hh0⟩ : ∃ h, Hid (h = headB db) := ⟨_, Lib.hid rfl⟩
  rw [← Hh0.out] at HHd
  have hh0 : hd0.size ≤ 7 := by rw [Hh0.out]; exact headB_size db
  clear hi hE hT ht hv hc1 HR0
  go_enter Tryz.func17, Tryz.ntmps17
  go_wp2_with fail
  rw [← HV.out, ← HN.out]
  refine HC.out.mono ?_
  rintro e w1 ⟨rfl, hb⟩
  have HB1 := Lib.hid (below_step HB.out hb)
  have c0 : w1.cell? ⟨N, 0, none⟩ = some (.slice oo n oc) := (whole_belowM HW.out hb).cell 0
  have c1 : w1.cell? ⟨N, 1, none⟩ = some (.bool db) := (whole_belowM HW.out hb).cell 1
  clear hb
  go_wp2_with fail
  refine (HHd.out w1).mono ?_
  rintro e _ ⟨rfl, rfl⟩
  go_wp2_with fail
  go_loopw [4, 19] (fun sv i wr => ∃ (k : Nat) (s : ByteArray), k ≤ n ∧ sv = .string s ∧ i = .int .i64 k ∧ s.size ≤ 8 + k * 1000001 ∧ Hid (Below W.heap.size W wr ∧ s = bodyE db (l.take k))) (fun _ i _ => n - (intOf i).toNat)
  case atStart => exact ⟨0, _, Nat.zero_le _, rfl, by go_num, by rw [Hh0.out]; exact HSz.out 0 (Nat.zero_le _), Lib.hid ⟨HB1.out, by rw [Hh0.out]; rfl⟩⟩
  case round =>
    obtain ⟨k, s, hk, rfl, rfl, hss, HR⟩ := hrel
    by_cases hkn : k < n
    · have hd : decide ((k : Int) < n) = true := decide_eq_true (by omega)
      have hb0 : (0 : Int) ≤ k := by omega
      have hb1 : (k : Int) < n := by omega
      have hkl : k < l.length := by rw [← Hn.out]; exact hkn
      obtain ⟨bk, off, cs, rfl, hbk, hrg, rfl, hsz⟩ := HI.out.at hkl
      obtain ⟨y, Hy⟩ : ∃ m, Hid (m = l[k]) := ⟨_, Lib.hid rfl⟩
      rw [← Hy.out] at hrg hsz
      have HRg := Lib.hid (rangeB hrg hbk HR.out.1)
      have HOne := Lib.hid (evC_one y)
      have HEy : Hid _ := Lib.hid (HE.out l[k] (List.getElem_mem hkl))
      rw [← Hy.out] at HEy
      obtain ⟨U, HU⟩ : ∃ w, Hid (w = wr.alloc (.cells (evC y).toArray 51)) := ⟨_, Lib.hid rfl⟩
      obtain ⟨g, Hg⟩ : ∃ g, Hid (g = wr.heap.size) := ⟨_, Lib.hid rfl⟩
      have HWU : Hid (Whole U g 51 (evC y).toArray) := Lib.hid (by rw [HU.out, Hg.out]; exact Whole.new _ _ _)
      have HBWU : Hid (Below W.heap.size W U) := Lib.hid (below_step HR.out.1 (by rw [HU.out]; exact (Below.refl _ _).alloc (Nat.le_refl _) _))
      obtain ⟨ty, Hty⟩ : ∃ t : ByteArray, Hid (t = ⟨(textE y).toArray⟩) := ⟨_, Lib.hid rfl⟩
      have HCn := Lib.hid (HEy.out.2 U (HT.out.1.below HBWU.out) (HT.out.2.below HBWU.out))
      rw [← Hty.out] at HCn
      have hty : ty.size ≤ 1000000 := by rw [Hty.out]; exact HEy.out.1
      have HNx : Hid (bodyE db (l.take (k + 1)) = bodyE db (l.take k) ++ (ty ++ ⟨#[10]⟩)) := Lib.hid (by rw [bodyE_next db hkl, Hty.out, Hy.out]; rfl)
      clear hrg hsz hbk
      go_wp2_with (first
        | (with_reducible show wpList _ _ _ (Oper.mk _ (Op.load 51 _) _ _ _ _ :: _) _ _; refine wpList_load_mid rfl _ _ rfl bk (off + k * 14) rfl _ _ HRg.out Tryz.underlying51 rfl (HSp.out.trans rfl) ?_)
        | (with_reducible show wpList _ _ _ (Oper.mk _ (Op.store 51 _ _) _ _ _ _ :: _) _ _; refine Hid.out ?_))
      refine Lib.hid ?_
      refine wpList_store_new rfl _ _ _ rfl _ (evC y).toArray rfl rfl (HSp.out.trans rfl) rfl HOne.out ?_
      rw [← HU.out, ← Hg.out]
      go_simp
      go_wp2_with (first
        | (with_reducible show wpList _ _ _ (Oper.mk _ (Op.load 51 _) _ _ _ _ :: _) _ _; refine wpList_load_mid rfl _ _ rfl g 0 rfl _ _ HWU.out.range Tryz.underlying51 rfl (HSp.out.trans rfl) ?_))
      refine HCn.out.mono ?_
      rintro e w3 ⟨rfl, hb3⟩
      have HB3 := Lib.hid (below_step HBWU.out hb3)
      clear hb3
      go_wp2_with fail
      go_round
      case rel => exact ⟨k + 1, s ++ (ty ++ ⟨#[10]⟩), by omega, rfl, by go_num, by have h := HSz.out (k + 1) (by omega); rw [HNx.out, ← HR.out.2] at h; exact h, Lib.hid ⟨HB3.out, by rw [HNx.out, ← HR.out.2]⟩⟩
      case measure => simp [intOf]; omega
    · obtain rfl : k = n := by omega
      have hd : decide ((k : Int) < k) = false := decide_eq_false (by omega)
      obtain rfl : s = R := by rw [HRe.out, HR.out.2, Hn.out, List.take_length]
      go_wp2_with fail
      go_ret2
      exact ⟨rfl, HR.out.1⟩
end Go.Proofs.YtknphmkblcbabaaGreatDoor
