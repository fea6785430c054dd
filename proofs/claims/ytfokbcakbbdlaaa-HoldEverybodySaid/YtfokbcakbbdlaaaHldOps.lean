/- The law's records; the reference's ints, Same, Few. -/
import Derived.Test.YtfokbcakbbdlaaaHldAll
namespace Go.Proofs.Ytfokbcakbbdlaaa
open Go.RowKit
open Hld (Rc Hd)

/-- The cells of a record that says nothing but these. -/
def mkC (kd au : Int) (ta na : ByteArray) (mem : Value) : List Value :=
  [.int .i64 kd, .int .i64 au, .int .i64 0, .string ⟨#[]⟩, .int .i64 0, .string ta, .string na, .string ⟨#[]⟩, mem, .slice none 0 0, .bool false, .int .i64 0, .int .i64 0, .int .i64 0, .bool false, .string ⟨#[]⟩, .string ⟨#[]⟩, .int .i64 0, .string ⟨#[]⟩, .string ⟨#[]⟩,
    .int .i64 0, .int .i64 0, .slice none 0 0, .string ⟨#[]⟩, .string ⟨#[]⟩, .int .i64 0, .string ⟨#[]⟩, .string ⟨#[]⟩, .int .i64 0, .int .i64 0, .string ⟨#[]⟩, .string ⟨#[]⟩, .int .i64 0, .int .i64 0, .slice none 0 0, .slice none 0 0]
def mkR (kd au : Int) (ta na : ByteArray) (ms : List Int) (mo : Option Addr) (mc : Nat) : Rc := ⟨kd, au, ta, na, ms, mo, mc, mkC kd au ta na (.slice mo ms.length mc)⟩
theorem mkR_ok (kd au : Int) (ta na : ByteArray) (ms : List Int) (mo : Option Addr) (mc : Nat) (h1 : ms.length ≤ 1000) (h2 : ta.size ≤ 1000) (h3 : na.size ≤ 1000) : RcOk (mkR kd au ta na ms mo mc) :=
  ⟨rfl, by intro v hv; simp only [mkR, mkC, List.mem_cons, List.not_mem_nil, or_false] at hv; rcases hv with rfl | rfl | rfl | rfl | rfl | rfl | rfl | rfl | rfl | rfl | rfl | rfl | rfl | rfl | rfl | rfl | rfl | rfl | rfl | rfl | rfl | rfl | rfl | rfl | rfl | rfl | rfl | rfl | rfl | rfl | rfl | rfl | rfl | rfl | rfl | rfl <;> rfl,
    rfl, rfl, rfl, rfl, rfl, by show ms.length ≤ _; omega, by show ta.size ≤ _; omega, by show na.size ≤ _; omega⟩
theorem results_rec {fn : Func} (h : fn.results = #[.cell 4 54]) (tmps : Array Value) (w : World) (A : Nat) (cs : List Value) (hl : cs.length = 36) (hw : Whole w A 54 cs.toArray) (h4 : tmps.getD 4 undef = .pointer (some ⟨A, 0, none⟩)) :
    (results fn tmps).run Try.prog w = .ok (.agg cs.toArray) w := by
  have hr : w.rangeAt A 0 cs := fun j v hv => by rw [Nat.zero_add, hw.cell]; simpa using hv
  have hld := run_loadVar_mid (P := Try.prog) w A 0 54 cs _ hr Try.underlying54 rfl (by rw [hl]; kernel_rfl)
  simp only [results, h, List.mapM_toArray, List.mapM_cons, List.mapM_nil, h4]
  simp [asAddr, Sem.run_bind, hld, Result.andThen]

set_option maxRecDepth 100000 in
set_option maxHeartbeats 2000000 in
theorem made_any (na : ByteArray) (mo : Option Addr) (n mc : Nat) (W : World) :
    Calls Try.prog 20 #[.string na, .slice mo n mc] W fun e w' => e = .returned (.agg (mkC 5 0 ⟨#[]⟩ na (.slice mo n mc)).toArray) ∧ Below W.heap.size W w' := by
  go_enter Try.func20, Try.ntmps20
  go_wp2_with (first
    | (with_reducible show wpList _ _ _ (Oper.mk _ (Op.store 54 _ _) _ _ _ _ :: _) _ _; refine wpList_store_new rfl _ _ _ rfl _ (mkC 5 0 ⟨#[]⟩ na (.slice mo n mc)).toArray rfl rfl (by kernel_rfl) (by simp only [mkC, List.size_toArray, List.length_cons, List.length_nil]) (by simp [mkC, Value.oneCell']) ?_))
  exact bodyPost_ret (results_rec rfl _ _ W.heap.size (mkC 5 0 ⟨#[]⟩ na (.slice mo n mc)) rfl (Whole.new _ _ _) rfl) rfl ⟨rfl, (Below.refl _ _).alloc (Nat.le_refl _) _⟩
set_option maxRecDepth 100000 in
set_option maxHeartbeats 2000000 in
theorem back_any (au : Int) (ta : ByteArray) (W : World) :
    Calls Try.prog 19 #[.int .i64 au, .string ta] W fun e w' => e = .returned (.agg (mkC 6 au ta ⟨#[]⟩ (.slice none 0 0)).toArray) ∧ Below W.heap.size W w' := by
  go_enter Try.func19, Try.ntmps19
  go_wp2_with (first
    | (with_reducible show wpList _ _ _ (Oper.mk _ (Op.store 54 _ _) _ _ _ _ :: _) _ _; refine wpList_store_new rfl _ _ _ rfl _ (mkC 6 au ta ⟨#[]⟩ (.slice none 0 0)).toArray rfl rfl (by kernel_rfl) (by simp only [mkC, List.size_toArray, List.length_cons, List.length_nil]) (by simp [mkC, Value.oneCell']) ?_))
  exact bodyPost_ret (results_rec rfl _ _ W.heap.size (mkC 6 au ta ⟨#[]⟩ (.slice none 0 0)) rfl (Whole.new _ _ _) rfl) rfl ⟨rfl, (Below.refl _ _).alloc (Nat.le_refl _) _⟩

/-! ### The reference's ints and Same, where they are true -/
set_option maxRecDepth 100000 in
set_option maxHeartbeats 4000000 in
theorem ints_true (pa pb : Option Addr) (ca cb : Nat) (zs : List Int) (hl : zs.length ≤ 100000) (W : World) (ha : IsInts W pa zs) (hb : IsInts W pb zs) :
    Calls Try.prog 28 #[.slice pa zs.length ca, .slice pb zs.length cb] W fun e w' => e = .returned (.bool true) ∧ Below W.heap.size W w' := by
  have HA := Lib.hid ha
  have HB := Lib.hid hb
  clear ha hb
  obtain ⟨n, Hn⟩ : ∃ n, Hid (n = zs.length) := ⟨_, Lib.hid rfl⟩
  rw [← Hn.out] at hl
  rw [← Hn.out]
  go_enter Try.func28, Try.ntmps28
  go_wp2_with fail
  go_loopw [5] (fun i wr => ∃ k : Nat, k ≤ n ∧ i = .int .i64 k ∧ Hid (Below W.heap.size W wr)) (fun i _ => n - (intOf i).toNat)
  case atStart => exact ⟨0, Nat.zero_le _, by go_num, Lib.hid (Below.refl _ _)⟩
  case round =>
    obtain ⟨k, hk, rfl, HR⟩ := hrel
    by_cases hkn : k < n
    · have hd : decide ((k : Int) < n) = true := decide_eq_true (by omega)
      have hb0 : (0 : Int) ≤ k := by omega
      have hb1 : (k : Int) < n := by omega
      have hkz : k < zs.length := by rw [← Hn.out]; exact hkn
      obtain ⟨bk, off, rfl, h1, h2⟩ := HA.out.at hkz
      obtain ⟨bl, ofl, rfl, h3, h4⟩ := HB.out.at hkz
      obtain ⟨m, Hm⟩ : ∃ m, Hid (m = zs[k]) := ⟨_, Lib.hid rfl⟩
      rw [← Hm.out] at h2 h4
      have g1 : ∀ X : Grown wr, X.w.cell? ⟨bk, off + k, none⟩ = some (.int .i64 m) := fun X => by rw [X.cell (Nat.lt_of_lt_of_le h1 HR.out.size)]; exact (cell_below HR.out h1).trans h2
      have g2 : ∀ X : Grown wr, X.w.cell? ⟨bl, ofl + k, none⟩ = some (.int .i64 m) := fun X => by rw [X.cell (Nat.lt_of_lt_of_le h3 HR.out.size)]; exact (cell_below HR.out h3).trans h4
      clear h2 h4
      go_wp2_with fail
      refine wp_region_grown (by kernel_rfl) (by kernel_rfl) ?_
      repeat (go_big_quiet_step (fail))
      refine wpQuiet_nil ?_
      rintro _ ⟨X, rfl⟩
      go_wp2_with fail
      go_round
      case rel => exact ⟨k + 1, by omega, by go_num, Lib.hid (below_step HR.out X.below)⟩
      case measure => simp [intOf]; omega
    · have hd : decide ((k : Int) < n) = false := decide_eq_false (by omega)
      go_wp2_with fail
      go_ret
      exact ⟨rfl, HR.out⟩

set_option maxRecDepth 100000 in
set_option maxHeartbeats 4000000 in
theorem same_true (pa pb : Option Addr) (ca cb : Nat) (hs : List Hd) (hl : hs.length ≤ 100000) (hm : ∀ h ∈ hs, h.members.length ≤ 100000 ∧ h.back.length ≤ 100000) (W : World) (ha : IsHolds W pa hs) (hb : IsHolds W pb hs) :
    Calls Try.prog 15 #[.slice pa hs.length ca, .slice pb hs.length cb] W fun e w' => e = .returned (.bool true) ∧ Below W.heap.size W w' := by
  have HA := Lib.hid ha
  have HB := Lib.hid hb
  have HM := Lib.hid hm
  clear ha hb hm
  obtain ⟨n, Hn⟩ : ∃ n, Hid (n = hs.length) := ⟨_, Lib.hid rfl⟩
  rw [← Hn.out] at hl
  rw [← Hn.out]
  go_enter Try.func15, Try.ntmps15
  go_wp2_with fail
  go_loopw [5] (fun i wr => ∃ k : Nat, k ≤ n ∧ i = .int .i64 k ∧ Hid (Below W.heap.size W wr)) (fun i _ => n - (intOf i).toNat)
  case atStart => exact ⟨0, Nat.zero_le _, by go_num, Lib.hid (Below.refl _ _)⟩
  case round =>
    obtain ⟨k, hk, rfl, HR⟩ := hrel
    by_cases hkn : k < n
    · have hd : decide ((k : Int) < n) = true := decide_eq_true (by omega)
      have hb0 : (0 : Int) ≤ k := by omega
      have hb1 : (k : Int) < n := by omega
      have hkz : k < hs.length := by rw [← Hn.out]; exact hkn
      obtain ⟨bk, off, rfl, h1, a0, a1, mo, mc, bo, bc, a2, a3, a4, a5⟩ := HA.out.at hkz
      obtain ⟨bl, ofl, rfl, h2, b0, b1, mo', mc', bo', bc', b2, b3, b4, b5⟩ := HB.out.at hkz
      have hmm := HM.out _ (List.getElem_mem hkz)
      obtain ⟨id, Hid'⟩ : ∃ m, Hid (m = hs[k].id) := ⟨_, Lib.hid rfl⟩
      obtain ⟨ve, Hve⟩ : ∃ m, Hid (m = hs[k].vehicle) := ⟨_, Lib.hid rfl⟩
      obtain ⟨ml, Hml⟩ : ∃ m, Hid (m = hs[k].members.length) := ⟨_, Lib.hid rfl⟩
      obtain ⟨bl2, Hbl⟩ : ∃ m, Hid (m = hs[k].back.length) := ⟨_, Lib.hid rfl⟩
      have HC1 : Hid (∀ X : Grown wr, Calls Try.prog 28 #[.slice mo ml mc, .slice mo' ml mc'] X.w fun e w' => e = .returned (.bool true) ∧ Below X.w.heap.size X.w w') := Lib.hid (fun X => by
        rw [Hml.out]
        have hbx := below_step HR.out X.below
        exact ints_true mo mo' mc mc' _ hmm.1 X.w (a4.below hbx) (b4.below hbx))
      have HC2 : Hid (∀ X : Grown wr, Calls Try.prog 28 #[.slice bo bl2 bc, .slice bo' bl2 bc'] X.w fun e w' => e = .returned (.bool true) ∧ Below X.w.heap.size X.w w') := Lib.hid (fun X => by
        rw [Hbl.out]
        have hbx := below_step HR.out X.below
        exact ints_true bo bo' bc bc' _ hmm.2 X.w (a5.below hbx) (b5.below hbx))
      rw [← Hid'.out] at a0 b0
      rw [← Hve.out] at a1 b1
      rw [← Hml.out] at a2 b2
      rw [← Hbl.out] at a3 b3
      have hgx : ∀ {b o : Nat} {v : Value}, b < W.heap.size → W.cell? ⟨b, o, none⟩ = some v → ∀ X : Grown wr, X.w.cell? ⟨b, o, none⟩ = some v := fun {b o v} hb hc X => by
        rw [X.cell (Nat.lt_of_lt_of_le hb HR.out.size)]; exact (cell_below HR.out hb).trans hc
      have ga0 := hgx h1 a0
      have ga1 := hgx h1 a1
      have ga2 := hgx h1 a2
      have ga3 := hgx h1 a3
      have gb0 := hgx h2 b0
      have gb1 := hgx h2 b1
      have gb2 := hgx h2 b2
      have gb3 := hgx h2 b3
      clear a0 a1 a2 a3 b0 b1 b2 b3 hgx hmm
      go_wp2_with fail
      refine wp_region_grown (by kernel_rfl) (by kernel_rfl) ?_
      iterate 36 (go_big_quiet_step (exact grown_of (HC1.out _)))
      repeat (go_big_quiet_step (exact grown_of (HC2.out _)))
      refine wpQuiet_nil ?_
      rintro _ ⟨X, rfl⟩
      go_wp2_with fail
      go_round
      case rel => exact ⟨k + 1, by omega, by go_num, Lib.hid (below_step HR.out X.below)⟩
      case measure => simp [intOf]; omega
    · have hd : decide ((k : Int) < n) = false := decide_eq_false (by omega)
      go_wp2_with fail
      go_ret
      exact ⟨rfl, HR.out⟩

end Go.Proofs.Ytfokbcakbbdlaaa
