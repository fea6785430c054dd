/- The walks of the reference: what is ready, and what is closed. -/
import Derived.Test.YtejgbfaampllaaaTskUndo
import Derived.Test.YtejgbfaampllaaaTskRValid
namespace Go.Proofs.Ytejgbfaampllaaa
open Go.RowKit

/-- A task of a valid list in memory, with what it needs as plain numbers. -/
theorem needs_at {l : List Tk} {n : Nat} (hv : Tsk.validB l = true) (hn : n = l.length) {W : World} {ao : Option Addr} (hl : IsTasks W ao l) {k : Nat} (hk : k < n) :
    ∃ bk off ao2 cap2, ∃ zs : List Nat, ao = some ⟨bk, off, none⟩ ∧ bk < W.heap.size ∧ W.cell? ⟨bk, off + k * 4, none⟩ = some (.int .i64 (Tsk.hoursAt l k)) ∧ (∃ s : Int, W.cell? ⟨bk, off + k * 4 + 1, none⟩ = some (.int .i64 s)) ∧ (∃ b : Bool, W.cell? ⟨bk, off + k * 4 + 2, none⟩ = some (.bool b)) ∧
      W.cell? ⟨bk, off + k * 4 + 3, none⟩ = some (.slice ao2 zs.length cap2) ∧ IsInts W ao2 (Tsk.ints zs) ∧ zs = Tsk.needsAt l k ∧ (∀ j ∈ zs, j < n) ∧ zs.length ≤ 40 := by
  subst hn
  obtain ⟨bk, off, rfl, hbk, hact⟩ := hl.at hk
  have hft := (Tsk.validB_iff.1 hv).2 _ (List.getElem_mem hk)
  have h40 := (Tsk.validB_iff.1 hv).1
  obtain ⟨c1, c2, c3, ao2, cap2, c4, hin⟩ := hact
  have hlen := Tsk.fineB_len (Tsk.fineTB_iff.1 hft).2
  have e : Tsk.ints (Tsk.needs l[k]) = l[k].after := by
    unfold Tsk.ints Tsk.needs
    rw [List.map_map]
    conv => rhs; rw [← List.map_id l[k].after]
    apply List.map_congr_left
    intro x hx
    obtain ⟨q, hq, rfl⟩ := List.getElem_of_mem hx
    have h1 := Tsk.stepB_iff.1 (Tsk.fineB_iff.1 (Tsk.fineTB_iff.1 hft).2 q hq)
    rw [Tsk.getD_get hq] at h1
    simp only [Function.comp_apply, id]
    omega
  have el : (Tsk.needs l[k]).length = l[k].after.length := by simp [Tsk.needs]
  exact ⟨bk, off, ao2, cap2, Tsk.needs l[k], rfl, hbk, by rw [Tsk.hoursAt_get hk]; exact c1, ⟨_, c2⟩, ⟨_, c3⟩, by rw [el]; exact c4, by rw [e]; exact hin, (Tsk.needsAt_get hk).symm, Tsk.needs_lt hft, by rw [el]; omega⟩
theorem ints_at {W : World} {ao : Option Addr} {zs : List Nat} (h : IsInts W ao (Tsk.ints zs)) {k : Nat} (hk : k < zs.length) : ∃ bk off, ao = some ⟨bk, off, none⟩ ∧ bk < W.heap.size ∧ W.cell? ⟨bk, off + k, none⟩ = some (.int .i64 (zs[k] : Nat)) := by
  obtain ⟨bk, off, h1, h2, h3⟩ := h.at (k := k) (by simpa [Tsk.ints] using hk)
  exact ⟨bk, off, h1, h2, by rw [h3]; simp [Tsk.ints]⟩
theorem bools_at {W : World} {ao : Option Addr} {bs : List Bool} (h : IsBools W ao bs) {k : Nat} (hk : k < bs.length) : ∃ bk off, ao = some ⟨bk, off, none⟩ ∧ bk < W.heap.size ∧ ∀ q, q < bs.length → W.cell? ⟨bk, off + q, none⟩ = some (.bool (Tsk.dn bs q)) := by
  rcases h with h | ⟨bk, off, h1, h2, h3⟩
  · subst h; simp at hk
  · exact ⟨bk, off, h1, h2, fun q hq => by rw [h3 q hq, Tsk.dn_get hq]⟩

set_option maxHeartbeats 1000000 in
theorem rready_any (l : List Tk) (hv : Tsk.validB l = true) (n : Nat) (hn : n = l.length) (done : List Bool) (hd : done.length = n) (ao bo : Option Addr) (cap capb : Nat) (W : World) (hl : IsTasks W ao l) (hb : IsBools W bo done) (i : Nat) (hi : i < n) :
    Calls Try.prog 27 #[.slice ao n cap, .slice bo n capb, .int .i64 (i : Int)] W fun e w' => e = .returned (.bool (Tsk.rdB l done i)) ∧ W = w' := by
  obtain ⟨bk, off, ao2, cap2, zs, rfl, hbk, -, -, -, c4, hin, hzs, hzl, hz40⟩ := needs_at hv hn hl hi
  have hid : i < done.length := by rw [hd]; exact hi
  obtain ⟨bd, od, rfl, hbd, hdc⟩ := bools_at hb hid
  have dk := hdc i hid
  obtain ⟨di, Hdi⟩ : ∃ x, Hid (x = Tsk.dn done i) := ⟨_, Lib.hid rfl⟩
  obtain ⟨m, Hm⟩ : ∃ x, Hid (x = zs.length) := ⟨_, Lib.hid rfl⟩
  rw [← Hdi.out] at dk
  rw [← Hm.out] at c4 hz40
  have HDC := Lib.hid hdc
  have HIn := Lib.hid hin
  have HZ := Lib.hid hzs
  have HZl := Lib.hid hzl
  have HD := Lib.hid hd
  have hi' : (i : Int) < n := by omega
  obtain ⟨r, Hr⟩ : ∃ x, Hid (x = Tsk.rdB l done i) := ⟨_, Lib.hid rfl⟩
  have HR : Hid (r = (!di && zs.all (Tsk.dn done))) := Lib.hid (by rw [Hr.out, HZ.out, Hdi.out]; rfl)
  rw [← Hr.out]
  clear hv hn hl hb hdc hin hzs hzl hd
  cases di
  · go_enter Try.func27, Try.ntmps27
    go_wp2
    go_loop [7] (fun v => ∃ j : Nat, j ≤ m ∧ v = .int .i64 j ∧ Hid (∀ q, (hq : q < zs.length) → q < j → Tsk.dn done zs[q] = true)) (fun v => m - (intOf v).toNat)
    case atStart => exact ⟨0, by omega, rfl, Lib.hid fun q _ h => by omega⟩
    case round =>
      obtain ⟨j, hj, rfl, HA⟩ := hrel
      by_cases hlt : j < m
      · have hlt' : (j : Int) < m := by omega
        have hja : j < zs.length := by rw [← Hm.out]; exact hlt
        obtain ⟨b2, o2, rfl, hb2, d1⟩ := ints_at HIn.out hja
        obtain ⟨x, Hx⟩ : ∃ x, Hid (x = zs[j]) := ⟨_, Lib.hid rfl⟩
        rw [← Hx.out] at d1
        have hxn : x < n := by rw [Hx.out]; exact HZl.out _ (List.getElem_mem _)
        have hxn' : (x : Int) < n := by omega
        have d2 := HDC.out x (by rw [HD.out]; exact hxn)
        obtain ⟨dx, Hdx⟩ : ∃ y, Hid (y = Tsk.dn done x) := ⟨_, Lib.hid rfl⟩
        rw [← Hdx.out] at d2
        cases dx
        · have HE : Hid (r = false) := Lib.hid (by
            rw [HR.out]
            have : zs.all (Tsk.dn done) = false := List.all_eq_false.2 ⟨x, by rw [Hx.out]; exact List.getElem_mem _, by rw [← Hdx.out]; simp⟩
            rw [this]; rfl)
          go_wp2
          go_ret
          exact ⟨ret_bool HE.out.symm, rfl⟩
        · go_wp2
          go_round
          case rel => exact ⟨j + 1, by omega, by go_num, Lib.hid fun q h1 h2 => by
            by_cases e : q = j
            · subst e; rw [← Hx.out, ← Hdx.out]
            · exact HA.out q h1 (by omega)⟩
          case measure => simp [intOf]; omega
      · have HE : Hid (r = true) := Lib.hid (by
          rw [HR.out]
          have : zs.all (Tsk.dn done) = true := List.all_eq_true.2 fun x hx => by
            obtain ⟨q, hq, rfl⟩ := List.getElem_of_mem hx
            exact HA.out q hq (by have := Hm.out; omega)
          rw [this]; rfl)
        obtain rfl : m = j := by omega
        go_wp2
        go_ret
        exact ⟨ret_bool HE.out.symm, rfl⟩
  · have HE : Hid (r = false) := Lib.hid (by rw [HR.out]; rfl)
    go_enter Try.func27, Try.ntmps27
    go_wp2
    go_ret
    exact ⟨ret_bool HE.out.symm, rfl⟩

set_option maxHeartbeats 2000000 in
theorem rclosed_any (l : List Tk) (hv : Tsk.validB l = true) (n : Nat) (hn : n = l.length) (done : List Bool) (hd : done.length = n) (ao bo : Option Addr) (cap capb : Nat) (W : World) (hl : IsTasks W ao l) (hb : IsBools W bo done) :
    Calls Try.prog 30 #[.slice ao n cap, .slice bo n capb] W fun e w' => e = .returned (.bool (Tsk.closedB l done)) ∧ W = w' := by
  have HN := Lib.hid fun k (hk : k < n) => needs_at hv hn hl hk
  have h40 : (n : Int) ≤ 40 := by have := (Tsk.validB_iff.1 hv).1; omega
  have HB := Lib.hid hb
  have HD := Lib.hid hd
  have Hn := Lib.hid hn
  obtain ⟨r, Hr⟩ : ∃ x, Hid (x = Tsk.closedB l done) := ⟨_, Lib.hid rfl⟩
  rw [← Hr.out]
  clear hv hn hl hb hd
  go_enter Try.func30, Try.ntmps30
  go_wp2
  go_loop [5] (fun v => ∃ k : Nat, k ≤ n ∧ v = .int .i64 k ∧ Hid (Tsk.closedUp l done k)) (fun v => n - (intOf v).toNat)
  case atStart => exact ⟨0, by omega, rfl, Lib.hid fun q h => by omega⟩
  case round =>
    obtain ⟨k, hk, rfl, HA⟩ := hrel
    by_cases hlt : k < n
    · have hlt' : (k : Int) < n := by omega
      obtain ⟨bk, off, ao2, cap2, zs, rfl, hbk, -, -, -, c4, hin, hzs, hzl, hz40⟩ := HN.out k hlt
      obtain ⟨bd, od, rfl, hbd, hdc⟩ := bools_at HB.out (k := k) (by rw [HD.out]; exact hlt)
      have dk := hdc k (by rw [HD.out]; exact hlt)
      obtain ⟨di, Hdi⟩ : ∃ x, Hid (x = Tsk.dn done k) := ⟨_, Lib.hid rfl⟩
      obtain ⟨m, Hm⟩ : ∃ x, Hid (x = zs.length) := ⟨_, Lib.hid rfl⟩
      rw [← Hdi.out] at dk
      rw [← Hm.out] at c4 hz40
      have HDC := Lib.hid hdc
      have HIn := Lib.hid hin
      have HZ := Lib.hid hzs
      have HZl := Lib.hid hzl
      have HCl : Hid (r = true → di = true → zs.all (Tsk.dn done) = true) := Lib.hid fun h1 h2 => by
        have h3 := Tsk.closedB_iff.1 (Hr.out ▸ h1) k (by rw [← Hn.out]; exact hlt) (by rw [← Hdi.out]; exact h2)
        unfold Tsk.needsDone at h3
        rwa [← HZ.out] at h3
      clear hdc hin hzs hzl
      go_wp2
      go_loop [6] (fun v => ∃ j : Nat, j ≤ m ∧ v = .int .i64 j ∧ Hid (di = true → ∀ q, (hq : q < zs.length) → q < j → Tsk.dn done zs[q] = true)) (fun v => m - (intOf v).toNat)
      case atStart => exact ⟨0, by omega, rfl, Lib.hid fun _ q _ h => by omega⟩
      case round =>
        obtain ⟨j, hj, rfl, HS⟩ := hrel
        by_cases hlt2 : j < m
        · have hlt2' : (j : Int) < m := by omega
          have hja : j < zs.length := by rw [← Hm.out]; exact hlt2
          obtain ⟨b2, o2, rfl, hb2, d1⟩ := ints_at HIn.out hja
          obtain ⟨x, Hx⟩ : ∃ x, Hid (x = zs[j]) := ⟨_, Lib.hid rfl⟩
          rw [← Hx.out] at d1
          have hxn : x < n := by rw [Hx.out]; exact HZl.out _ (List.getElem_mem _)
          have hxn' : (x : Int) < n := by omega
          have d2 := HDC.out x (by rw [HD.out]; exact hxn)
          obtain ⟨dx, Hdx⟩ : ∃ y, Hid (y = Tsk.dn done x) := ⟨_, Lib.hid rfl⟩
          rw [← Hdx.out] at d2
          cases di
          · go_wp2
            go_round
            case rel => exact ⟨j + 1, by omega, by go_num, Lib.hid fun h => by cases h⟩
            case measure => simp [intOf]; omega
          · cases dx
            · have HE : Hid (r = false) := Lib.hid (by
                cases hr : r
                · rfl
                · have h1 := List.all_eq_true.1 (HCl.out hr rfl) x (by rw [Hx.out]; exact List.getElem_mem _)
                  rw [← Hdx.out] at h1; cases h1)
              go_wp2
              go_ret
              exact ⟨ret_bool HE.out.symm, rfl⟩
            · go_wp2
              go_round
              case rel => exact ⟨j + 1, by omega, by go_num, Lib.hid fun h q h1 h2 => by
                by_cases e : q = j
                · subst e; rw [← Hx.out, ← Hdx.out]
                · exact HS.out rfl q h1 (by omega)⟩
              case measure => simp [intOf]; omega
        · have HE : Hid (Tsk.dn done k = true → Tsk.needsDone l done k = true) := Lib.hid fun h => by
            unfold Tsk.needsDone
            rw [← HZ.out]
            refine List.all_eq_true.2 fun x hx => ?_
            obtain ⟨q, hq, rfl⟩ := List.getElem_of_mem hx
            exact HS.out (by rw [Hdi.out]; exact h) q hq (by have := Hm.out; omega)
          obtain rfl : m = j := by omega
          go_wp2
          go_round
          case rel => exact ⟨k + 1, by omega, by go_num, Lib.hid fun q h1 h2 => by
            by_cases e : q = k
            · subst e; exact HE.out h2
            · exact HA.out q (by omega) h2⟩
          case measure => simp [intOf]; omega
    · have HE : Hid (r = true) := Lib.hid (by
        rw [Hr.out]
        exact Tsk.closedB_iff.2 (by rw [← Hn.out]; intro q h1; exact HA.out q (by omega)))
      obtain rfl : n = k := by omega
      go_wp2
      go_ret
      exact ⟨ret_bool HE.out.symm, rfl⟩

end Go.Proofs.Ytejgbfaampllaaa
