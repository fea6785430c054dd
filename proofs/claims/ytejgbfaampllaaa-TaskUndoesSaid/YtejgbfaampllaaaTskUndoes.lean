/- The statement on undoing: its walk. -/
import Derived.Test.YtejgbfaampllaaaTskHead
import Derived.Test.YtejgbfaampllaaaTskFew
import Derived.Test.YtejgbfaampllaaaTskNeeds
import Derived.Test.YtejgbfaampllaaaTskUndoesMath
namespace Go.Proofs.Ytejgbfaampllaaa
open Go.RowKit

theorem run_min2 {P : Program} (ts : Array TypeId) (t : TypeId) (a b : Int) (w : World) : (Builtin.min_ ts t #[.int .i64 a, .int .i64 b]).run P w = .ok (.int .i64 (min a b)) w := by
  have e : min a b = if b < a then b else a := by omega
  rw [e]
  simp [Builtin.min_, Builtin.min2] <;> rfl

theorem und_cases (dk xk rk : Bool) (P : Prop) (h : xk = true ↔ dk = true ∧ ¬ P ∧ ¬ rk = true) : (dk = false ∧ xk = false) ∨ (dk = true ∧ P ∧ xk = false) ∨ (dk = true ∧ ¬ P ∧ rk = true ∧ xk = false) ∨ (dk = true ∧ ¬ P ∧ rk = false ∧ xk = true) := by
  by_cases e : P <;> cases dk <;> cases xk <;> cases rk <;> simp_all

set_option maxRecDepth 100000 in
set_option maxHeartbeats 8000000 in
theorem undoes37_any (l : List Tk) (hn : l.length ≤ 9223372036854775807) (hf : ∀ t ∈ l, tkFine t) (ao : Option Addr) (cap : Nat) (done : List Bool) (hdn : done.length ≤ 9223372036854775807) (bo : Option Addr) (capb : Nat) (one two : Int) (W : World) (hl : IsTasks W ao l) (hb : IsBools W bo done) :
    Calls Try.prog 6 #[.slice ao l.length cap, .slice bo done.length capb, .int .i64 one, .int .i64 two] W fun e w' => e = .returned (.bool true) ∧ Below W.heap.size W w' := by
  have HH := Lib.hid (head37_any W)
  have HF := Lib.hid fun w' (h : IsTasks w' ao l) => few_any l hf hn ao cap w' h
  have HV := Lib.hid fun w' (h : IsTasks w' ao l) => rvalid_any l hf hn ao cap w' h
  have HU := Lib.hid fun (bs : List Bool) (t : Int) p c w' (h : IsTasks w' ao l) (hd : IsBools w' p bs) => undo_any l hf hn bs t ao p cap c w' h hd
  have HR := Lib.hid fun (bs : List Bool) (hdn : bs.length ≤ 9223372036854775807) p c w' (h : IsTasks w' ao l) (hd : IsBools w' p bs) => ready_any l hf hn bs hdn ao p cap c w' h hd
  obtain ⟨n, Hn⟩ : ∃ n, Hid (n = l.length) := ⟨_, Lib.hid rfl⟩
  obtain ⟨m, Hm⟩ : ∃ n, Hid (n = done.length) := ⟨_, Lib.hid rfl⟩
  have HN := Lib.hid fun (hv : Tsk.validB l = true) w' (h : IsTasks w' ao l) => needs_any l hv n Hn.out ao cap w' h
  have HL := Lib.hid hl
  have HD := Lib.hid hb
  obtain ⟨vb, Hvb⟩ : ∃ n, Hid (n = Tsk.validB l) := ⟨_, Lib.hid rfl⟩
  obtain ⟨fb, Hfb⟩ : ∃ n, Hid (n = Tsk.fewB l) := ⟨_, Lib.hid rfl⟩
  unfold UndoPost at HU
  unfold ReadyPost at HR
  rw [← Hn.out, ← Hfb.out] at HF
  rw [← Hn.out, ← Hvb.out] at HV
  have HU1 := Lib.hid fun w' (h : IsTasks w' ao l) (hd : IsBools w' bo done) => HU.out done one bo capb w' h hd
  have HU2 := Lib.hid fun w' (h : IsTasks w' ao l) (hd : IsBools w' bo done) => HU.out done two bo capb w' h hd
  rw [← Hn.out, ← Hm.out] at HU1 HU2
  rw [← Hn.out] at HU HR
  rw [← Hn.out, ← Hm.out]
  clear hl hb hf hn hdn
  go_enter Try.func6, Try.ntmps6
  go_wp2_with fail
  refine HH.out.mono ?_
  rintro e w1 ⟨rfl, hb⟩
  have HB1 := Lib.hid hb
  clear hb
  cases fb
  · go_wp2_with fail
    refine (HF.out _ (HL.out.below HB1.out)).mono ?_
    rintro e _ ⟨rfl, rfl⟩
    go_wp2
    go_ret
    exact ⟨rfl, HB1.out⟩
  · go_wp2_with fail
    refine (HF.out _ (HL.out.below HB1.out)).mono ?_
    rintro e _ ⟨rfl, rfl⟩
    go_wp2_with fail
    refine (HV.out _ (HL.out.below HB1.out)).mono ?_
    rintro e w2 ⟨rfl, hb⟩
    have HB2 := Lib.hid (below_step HB1.out hb)
    clear hb
    by_cases hbad : vb = false ∨ vb = true ∧ (60 : Int) < m
    · rcases hbad with rfl | ⟨rfl, h60⟩
      all_goals
        go_wp2
        go_ret
        exact ⟨rfl, HB2.out⟩
    · obtain rfl : vb = true := by cases vb with | true => rfl | false => exact absurd (Or.inl rfl) hbad
      have h60 : ¬ (60 : Int) < m := fun h => hbad (Or.inr ⟨rfl, h⟩)
      have hvb : Tsk.validB l = true := Hvb.out.symm
      have h40 : (n : Int) ≤ 40 := by have := (Tsk.validB_iff.1 hvb).1; have := Hn.out; omega
      have HN2 := Lib.hid (HN.out hvb)
      clear HN hvb hbad
      go_wp2_with fail
      refine (HU1.out _ (HL.out.below HB2.out) (HD.out.below HB2.out)).mono ?_
      rintro e w3 ⟨o1, k1, rfl, hb, hi⟩
      have HB3 := Lib.hid (below_step HB2.out hb)
      have HI1 := Lib.hid hi
      clear hb hi
      by_cases hE : Tsk.undoE l done one = 0
      · obtain ⟨hv, hd, ho, hp0, hpl, hc, hdk⟩ := Tsk.undoE_zero hE
        obtain ⟨tk, rfl⟩ : ∃ k : Nat, one = k := ⟨one.toNat, by omega⟩
        have HZ := Lib.hid hE
        have HSp := Lib.hid (Tsk.undo_spec hE)
        have htn : tk < n := by have := Hn.out; omega
        have htn' : (tk : Int) < n := by omega
        have ht0 : ¬ ((tk : Nat) : Int) < 0 := by omega
        have ht4 : decide (n ≤ tk) = false := decide_eq_false (by omega)
        obtain rfl : m = n := by have := Hm.out; have := Hn.out; omega
        have HDl : Hid (done.length = m) := Lib.hid Hm.out.symm
        obtain ⟨X, HX⟩ : ∃ x, Hid (x = Tsk.undoV l done tk) := ⟨_, Lib.hid rfl⟩
        have HRdy := Lib.hid (Tsk.undo_ready hE)
        have hXl : X.length = m := by have := HSp.out.1; rw [HX.out, this, Hn.out]
        have HXl := Lib.hid hXl
        rw [hE, ← HX.out, hXl]
        rw [← HX.out] at HI1 HSp HRdy
        have hnn : ((m : Int) != m) = false := by simp
        clear hE hv hd ho hp0 hpl hc hdk hXl
        go_wp2_with fail
        refine (HN2.out _ (HL.out.below HB3.out)).mono ?_
        rintro e w4 ⟨g, h, R, rfl, hb, hN⟩
        have HB4 := Lib.hid (below_step HB3.out hb)
        have HNe := Lib.hid hN
        have HI4 := Lib.hid (HI1.out.below hb)
        clear hb hN HI1
        obtain ⟨bd, od, rfl, hbd, hdc⟩ := bools_at (HD.out.below HB4.out) (k := tk) (by rw [HDl.out]; exact htn)
        obtain ⟨bx, ox, rfl, hbx, hxc⟩ := bools_at HI4.out (k := tk) (by rw [HXl.out]; exact htn)
        have HDC := Lib.hid hdc
        have HXC := Lib.hid hxc
        clear hbd hdc hbx hxc
        go_wp2
        go_loopw [13] (fun i wr => ∃ k : Nat, k ≤ m ∧ i = .int .i64 k ∧ Hid (Below w4.heap.size w4 wr)) (fun i _ => m - (intOf i).toNat)
        case atStart => exact ⟨0, by omega, rfl, Lib.hid (Below.refl _ _)⟩
        case round =>
          obtain ⟨k, hk, rfl, HBk⟩ := hrel
          by_cases hlt : k < m
          · have hlt' : (k : Int) < m := by omega
            have q1 := HDC.out k (by rw [HDl.out]; exact hlt)
            have q2 := HXC.out k (by rw [HXl.out]; exact hlt)
            have q3 := HNe.out.out k hlt
            have q4 := HNe.out.val k tk hlt htn
            have l1 := lt_of_cell q1
            have l2 := lt_of_cell q2
            have l3 := lt_of_cell q3
            have l4 := lt_of_cell q4
            obtain ⟨dk, Hdk⟩ : ∃ x, Hid (x = Tsk.dn done k) := ⟨_, Lib.hid rfl⟩
            obtain ⟨xk, Hxk⟩ : ∃ x, Hid (x = Tsk.dn X k) := ⟨_, Lib.hid rfl⟩
            obtain ⟨rk, Hrk⟩ : ∃ x, Hid (x = R k tk) := ⟨_, Lib.hid rfl⟩
            have HVal : Hid (xk = true ↔ dk = true ∧ k ≠ tk ∧ ¬ rk = true) := Lib.hid (by
              rw [Hxk.out, Hdk.out, Hrk.out, HNe.out.path k tk hlt htn]
              exact HSp.out.2 k (by rw [← Hn.out]; exact hlt))
            rw [← Hdk.out] at q1
            rw [← Hxk.out] at q2
            rw [← Hrk.out] at q4
            have hcase : (dk = false ∧ xk = false) ∨ (dk = true ∧ k = tk ∧ xk = false) ∨ (dk = true ∧ ¬ k = tk ∧ rk = true ∧ xk = false) ∨ (dk = true ∧ ¬ k = tk ∧ rk = false ∧ xk = true) := und_cases dk xk rk (k = tk) HVal.out
            have HQ : Hid (∀ X' : Grown wr, X'.w.cell? ⟨bd, od + k, none⟩ = some (.bool dk) ∧ X'.w.cell? ⟨bx, ox + k, none⟩ = some (.bool xk) ∧ X'.w.cell? ⟨g, k, none⟩ = some (.slice (some ⟨h k, 0, none⟩) m m) ∧ X'.w.cell? ⟨h k, tk, none⟩ = some (.bool rk)) := Lib.hid fun X' => by
              have hB := below_step HBk.out X'.below
              exact ⟨by rw [hB.cell (p := ⟨bd, od + k, none⟩) l1, q1], by rw [hB.cell (p := ⟨bx, ox + k, none⟩) l2, q2], by rw [hB.cell (p := ⟨g, k, none⟩) l3, q3], by rw [hB.cell (p := ⟨h k, tk, none⟩) l4, q4]⟩
            clear q1 q2 q3 q4 l1 l2 l3 l4
            rcases hcase with ⟨rfl, rfl⟩ | ⟨rfl, hkt, rfl⟩ | ⟨rfl, hkt, rfl, rfl⟩ | ⟨rfl, hkt, rfl, rfl⟩
            case' inr.inl => have ek : ((k : Int) != tk) = false := by simp; omega
            case' inr.inr.inl => have ek : ((k : Int) != tk) = true := by simp; omega
            case' inr.inr.inr => have ek : ((k : Int) != tk) = true := by simp; omega
            all_goals
              try clear hkt
              have p1 : ∀ X' : Grown wr, _ := fun X' => (HQ.out X').1
              have p2 : ∀ X' : Grown wr, _ := fun X' => (HQ.out X').2.1
              have p3 : ∀ X' : Grown wr, _ := fun X' => (HQ.out X').2.2.1
              have p4 : ∀ X' : Grown wr, _ := fun X' => (HQ.out X').2.2.2
              go_wp2_with fail
              refine wp_region_grown (by kernel_rfl) (by kernel_rfl) ?_
              repeat (go_big_quiet_step (fail))
              refine wpQuiet_nil ?_
              rintro _ ⟨X', rfl⟩
              go_wp2
              go_roundw
              case rel => exact ⟨k + 1, by omega, by go_num, Lib.hid (HBk.out.trans (X'.below.mono HBk.out.size))⟩
              case measure => simp [intOf]; omega
          · obtain rfl : m = k := by omega
            obtain ⟨wo, rfl⟩ : ∃ y, y = wr := ⟨_, rfl⟩
            have HB5 := Lib.hid (below_step HB4.out HBk.out)
            have HI5 := Lib.hid (HI4.out.below HBk.out)
            have HRX := Lib.hid fun w' (h : IsTasks w' ao l) (hd : IsBools w' (some ⟨bx, ox, none⟩) X) => HR.out X (by rw [HXl.out]; omega) (some ⟨bx, ox, none⟩) k1 w' h hd
            rw [HXl.out] at HRX
            obtain ⟨rv, Hrv⟩ : ∃ x, Hid (x = Tsk.readyV l X) := ⟨_, Lib.hid rfl⟩
            have HMem : Hid (tk ∈ rv) := Lib.hid (by rw [Hrv.out]; exact HRdy.out)
            rw [← Hrv.out] at HRX
            obtain ⟨rl, Hrl⟩ : ∃ x, Hid (x = rv.length) := ⟨_, Lib.hid rfl⟩
            rw [← Hrl.out] at HRX
            have hrl40 : (rl : Int) ≤ 40 := by
              have h1 : rv.length ≤ l.length := by
                rw [Hrv.out]
                unfold Tsk.readyV
                split
                · exact Tsk.readyUp_len _ _ _
                · simp
              have := Hrl.out
              have := Hn.out
              omega
            go_wp2_with fail
            refine (HRX.out _ (HL.out.below HB5.out) HI5.out).mono ?_
            rintro e w6 ⟨o6, k6, rfl, hb, hi⟩
            have HB6 := Lib.hid (below_step HB5.out hb)
            have HI6 := Lib.hid (HI5.out.below hb)
            have HRv := Lib.hid hi
            clear hb hi
            go_wp2
            go_loop [14, 16] (fun c i => ∃ k : Nat, k ≤ rl ∧ i = .int .i64 k ∧ ∃ b : Bool, c = .bool b ∧ Hid (b = true ↔ ∃ q, ∃ h : q < rv.length, q < k ∧ rv[q] = tk)) (fun _ i => rl - (intOf i).toNat)
            case atStart => exact ⟨0, by omega, rfl, false, rfl, Lib.hid ⟨fun h => (by cases h), fun ⟨q, _, hq, _⟩ => (by omega)⟩⟩
            case round =>
              obtain ⟨k, hk2, rfl, b, rfl, HC⟩ := hrel
              by_cases hlt : k < rl
              · have hlt' : (k : Int) < rl := by omega
                cases b
                · have hkr : k < rv.length := by have := Hrl.out; omega
                  obtain ⟨b7, o7, rfl, hb7, d7⟩ := ints_at HRv.out hkr
                  obtain ⟨x, Hx⟩ : ∃ x : Nat, Hid (x = rv[k]) := ⟨_, Lib.hid rfl⟩
                  rw [← Hx.out] at d7
                  have HNx : Hid (∀ b' : Bool, b' = ((x : Int) == (tk : Int)) → (b' = true ↔ ∃ q, ∃ h : q < rv.length, q < k + 1 ∧ rv[q] = tk)) := Lib.hid fun b' hb' => by
                    rw [hb', beq_iff_eq]
                    constructor
                    · intro he
                      exact ⟨k, hkr, by omega, by rw [← Hx.out]; omega⟩
                    · rintro ⟨q, h1, h2, h3⟩
                      by_cases e : q = k
                      · subst e
                        rw [← Hx.out] at h3
                        omega
                      · exact absurd (HC.out.2 ⟨q, h1, by omega, h3⟩) (by simp)
                  clear hb7
                  go_wp2
                  go_round
                  case rel => exact ⟨k + 1, by omega, by go_num, _, rfl, Lib.hid (HNx.out _ rfl)⟩
                  case measure => simp [intOf]; omega
                · go_wp2
                  go_round
                  case rel => exact ⟨k + 1, by omega, by go_num, true, rfl, Lib.hid (by
                    refine ⟨fun _ => ?_, fun _ => rfl⟩
                    obtain ⟨q, h1, h2, h3⟩ := HC.out.1 rfl
                    exact ⟨q, h1, by omega, h3⟩)⟩
                  case measure => simp [intOf]; omega
              · have hbt : b = true := HC.out.2 (by
                  obtain ⟨q, h1, h2⟩ := List.getElem_of_mem HMem.out
                  exact ⟨q, h1, by have := Hrl.out; omega, h2⟩)
                subst hbt
                obtain rfl : rl = k := by omega
                clear HC
                go_wp2_with fail
                refine (HU2.out _ (HL.out.below HB6.out) (HD.out.below HB6.out)).mono ?_
                rintro e w7 ⟨o8, k8, rfl, hb, hi⟩
                have HB7 := Lib.hid (below_step HB6.out hb)
                have HI7 := Lib.hid (HI6.out.below hb)
                have HY := Lib.hid hi
                have HX7 : Hid (∀ q, q < X.length → w7.cell? ⟨bx, ox + q, none⟩ = some (.bool (Tsk.dn X q))) := Lib.hid fun q hq => by
                  obtain ⟨b9, o9, he9, _, hc9⟩ := bools_at HI7.out (k := q) hq
                  simp only [Option.some.injEq, Addr.mk.injEq, and_true] at he9
                  obtain ⟨rfl, rfl⟩ := he9
                  exact hc9 q hq
                clear hb hi
                by_cases hF : Tsk.undoE l done two = 0
                · obtain ⟨_, _, _, hp0, hpl, _, hdt⟩ := Tsk.undoE_zero hF
                  obtain ⟨tw, rfl⟩ : ∃ k : Nat, two = k := ⟨two.toNat, by omega⟩
                  have HZ2 := Lib.hid hF
                  have HSp2 := Lib.hid (Tsk.undo_spec hF)
                  have hwn : tw < m := by have := Hn.out; omega
                  have hwn' : (tw : Int) < m := by omega
                  have hw0 : ¬ ((tw : Nat) : Int) < 0 := by omega
                  have hw4 : decide (m ≤ tw) = false := decide_eq_false (by omega)
                  obtain ⟨Y, HYd⟩ : ∃ x, Hid (x = Tsk.undoV l done tw) := ⟨_, Lib.hid rfl⟩
                  have hYl : Y.length = m := by have := HSp2.out.1; rw [HYd.out, this, Hn.out]
                  have HYl := Lib.hid hYl
                  rw [hF, ← HYd.out, hYl]
                  rw [← HYd.out] at HY HSp2
                  clear hp0 hpl hdt hF hYl
                  have hmin : ∀ (ts : Array TypeId) (t : TypeId) (w : World), (Builtin.min_ ts t #[.int .i64 tw, .int .i64 ((m : Int) - 1)]).run Try.prog w = .ok (.int .i64 tw) w := fun ts t w => by
                    rw [run_min2, show min (tw : Int) ((m : Int) - 1) = tw by omega]
                  have hmax : ∀ (ts : Array TypeId) (t : TypeId) (w : World), (Builtin.max_ ts t #[.int .i64 0, .int .i64 tw]).run Try.prog w = .ok (.int .i64 tw) w := fun ts t w => by
                    rw [run_max2, show max (0 : Int) (tw : Int) = tw by omega]
                  have x1 := HX7.out tw (by rw [HXl.out]; exact hwn)
                  obtain ⟨xt, Hxt⟩ : ∃ x, Hid (x = Tsk.dn X tw) := ⟨_, Lib.hid rfl⟩
                  rw [← Hxt.out] at x1
                  obtain ⟨by', oy, rfl, hby, hyc⟩ := bools_at HY.out (k := tk) (by rw [HYl.out]; exact htn)
                  have x2 := hyc tk (by rw [HYl.out]; exact htn)
                  obtain ⟨yt, Hyt⟩ : ∃ x, Hid (x = Tsk.dn Y tk) := ⟨_, Lib.hid rfl⟩
                  rw [← Hyt.out] at x2
                  clear hyc hby
                  cases xt
                  · clear x2
                    go_wp2
                    go_ret
                    exact ⟨rfl, HB7.out⟩
                  · cases yt
                    · go_wp2
                      go_ret
                      exact ⟨rfl, HB7.out⟩
                    · have htwo : Tsk.undoE l X tw = 0 ∧ Tsk.undoE l Y tk = 0 ∧ Tsk.undoV l X tw = Tsk.undoV l Y tk := by
                        rw [HX.out, HYd.out]
                        exact Tsk.undo_two HZ.out HZ2.out (by rw [← HX.out, ← Hxt.out]) (by rw [← HYd.out, ← Hyt.out])
                      obtain ⟨Z, HZd⟩ : ∃ x, Hid (x = Tsk.undoV l Y tk) := ⟨_, Lib.hid rfl⟩
                      have hZl : Z.length = m := by have := (Tsk.undo_spec htwo.2.1).1; rw [HZd.out, this, Hn.out]
                      have HA := Lib.hid fun w' (h : IsTasks w' ao l) (hd : IsBools w' (some ⟨bx, ox, none⟩) X) => HU.out X tw (some ⟨bx, ox, none⟩) k1 w' h hd
                      have HBb := Lib.hid fun w' (h : IsTasks w' ao l) (hd : IsBools w' (some ⟨by', oy, none⟩) Y) => HU.out Y tk (some ⟨by', oy, none⟩) k8 w' h hd
                      rw [htwo.1, htwo.2.2, HXl.out, ← HZd.out, hZl] at HA
                      rw [htwo.2.1, HYl.out, ← HZd.out, hZl] at HBb
                      have HBo := Lib.hid fun p q c d w' (h1 : IsBools w' p Z) (h2 : IsBools w' q Z) => bools_any Z Z (by rw [hZl]; omega) p q c d w' h1 h2
                      rw [hZl, decide_eq_true rfl] at HBo
                      clear htwo hZl
                      go_wp2_with fail
                      refine (HA.out _ (HL.out.below HB7.out) HI7.out).mono ?_
                      rintro e w8 ⟨oa, ka, rfl, hb, hi⟩
                      have HB8 := Lib.hid (below_step HB7.out hb)
                      have HY8 := Lib.hid (HY.out.below hb)
                      have HZa := Lib.hid hi
                      clear hb hi
                      go_wp2_with fail
                      refine (HBb.out _ (HL.out.below HB8.out) HY8.out).mono ?_
                      rintro e w9 ⟨ob, kb, rfl, hb, hi⟩
                      have HB9 := Lib.hid (below_step HB8.out hb)
                      have HZa := Lib.hid (HZa.out.below hb)
                      have HZb := Lib.hid hi
                      clear hb hi
                      go_wp2_with fail
                      refine (HBo.out oa ob ka kb _ HZa.out HZb.out).mono ?_
                      rintro e w10 ⟨rfl, hb⟩
                      have HB10 := Lib.hid (below_step HB9.out hb)
                      clear hb
                      go_wp2
                      go_ret
                      exact ⟨rfl, HB10.out⟩
                · obtain ⟨F, HFd⟩ : ∃ n, Hid (n = Tsk.undoE l done two) := ⟨_, Lib.hid rfl⟩
                  rw [← HFd.out]
                  have hF2 : (F != 0) = true := by rw [HFd.out]; simpa using hF
                  clear hF
                  go_wp2
                  go_ret
                  exact ⟨rfl, HB7.out⟩
      · have hx : Tsk.undoV l done one = [] := by unfold Tsk.undoV; rw [if_neg hE]
        obtain ⟨E, HE⟩ : ∃ n, Hid (n = Tsk.undoE l done one) := ⟨_, Lib.hid rfl⟩
        rw [hx, ← HE.out]
        have hE2 : (E != 0) = true := by rw [HE.out]; simpa using hE
        clear hE hx HI1
        go_wp2
        go_ret
        exact ⟨rfl, HB3.out⟩

end Go.Proofs.Ytejgbfaampllaaa
