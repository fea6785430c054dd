/- report.Text: the walk, from what event.Text gives at each of its events. -/
import Derived.Test.YtfkejnnbfneieaaGreatDoorEvtText
import Derived.Test.YtfkejnnbfneieaaGreatDoorEvtParM
import Derived.Test.YtfkejnnbfneieaaGreatDoorRepNames
namespace Go.Proofs.YtfkejnnbfneieaaGreatDoor
open Go.RowKit Go.Sort
open Evt

namespace Evt
def headB (b : Bool) : ByteArray := if b then ⟨#[112, 101, 114, 104, 97, 112, 115]⟩ else ⟨#[115, 117, 114, 101]⟩
def lineE (e : Ev) : ByteArray := (⟨(textE e).toArray⟩ : ByteArray) ++ ⟨#[10]⟩
def bodyE (db : Bool) (l : List Ev) : ByteArray := l.foldl (fun s e => s ++ lineE e) (headB db ++ ⟨#[10]⟩)
def textR (r : Rp) : ByteArray := bodyE r.doubt r.opts
theorem bodyE_next (db : Bool) {l : List Ev} {k : Nat} (hk : k < l.length) : bodyE db (l.take (k + 1)) = bodyE db (l.take k) ++ lineE l[k] := by
  unfold bodyE
  rw [← List.take_append_getElem hk, List.foldl_append]
  rfl
theorem headB_size (b : Bool) : (headB b).size ≤ 7 := by cases b <;> decide
theorem bodyE_size (db : Bool) {l : List Ev} (h : ∀ e ∈ l, (textE e).length ≤ 1000000) : ∀ k, k ≤ l.length → (bodyE db (l.take k)).size ≤ 8 + k * 1000001
  | 0, _ => by
    have := headB_size db
    show (headB db ++ (⟨#[10]⟩ : ByteArray)).size ≤ _
    rw [ByteArray.size_append]
    have : (⟨#[10]⟩ : ByteArray).size = 1 := rfl
    omega
  | k + 1, hk => by
    have h1 := bodyE_size db h k (by omega)
    have h2 := h _ (List.getElem_mem (show k < l.length by omega))
    rw [bodyE_next db (show k < l.length by omega), ByteArray.size_append]
    have h3 : (lineE l[k]).size = (textE l[k]).length + 1 := by
      unfold lineE
      rw [ByteArray.size_append]
      rfl
    omega
end Evt
theorem repHead_any (b : Bool) (W : World) : Calls Tryz.prog 25 #[.bool b] W fun e w' => e = .returned (.string (headB b)) ∧ w' = W := by
  cases b <;>
  · go_enter Tryz.func25, Tryz.ntmps25
    go_wp2_with fail
    go_ret
    exact ⟨rfl, rfl⟩
set_option maxRecDepth 100000 in
set_option maxHeartbeats 8000000 in
theorem repText_good (r : Rp) (oo : Option Addr) (oc : Nat) (hc1 : r.opts.length ≤ oc) (hc2 : oc ≤ 9223372036854775807) (hv : validR r = true)
    (hE : ∀ e ∈ r.opts, (textE e).length ≤ 1000000 ∧ ∀ W, WTab W → Tab W → Calls Tryz.prog 28 #[.agg (evC e).toArray] W fun x w' => x = .returned (.tuple #[.string ⟨(textE e).toArray⟩, .int .i64 0]) ∧ Below W.heap.size W w')
    (W : World) (hT : WTab W) (ht : Tab W) (hi : IsL 14 ElEv W oo r.opts) :
    Calls Tryz.prog 13 #[.agg #[.slice oo r.opts.length oc, .bool r.doubt]] W fun e w' => e = .returned (.tuple #[.string (textR r), .int .i64 0]) ∧ Below W.heap.size W w' := by
  obtain ⟨l, db⟩ := r
  dsimp only at hc1 hi hE ⊢
  have HI := Lib.hid hi
  have HSp := Lib.hid ev_size
  have HE := Lib.hid hE
  have HT := Lib.hid (And.intro hT ht)
  have hn4 := (validR_len hv).2
  dsimp only at hn4
  obtain ⟨V, HV⟩ : ∃ w, Hid (w = W.alloc (.cells #[.slice oo l.length oc, .bool db] 31)) := ⟨_, Lib.hid rfl⟩
  obtain ⟨N, HN⟩ : ∃ N, Hid (N = W.heap.size) := ⟨_, Lib.hid rfl⟩
  have HB : Hid (Below W.heap.size W V) := Lib.hid (by rw [HV.out]; exact (Below.refl _ _).alloc (Nat.le_refl _) _)
  have HW : Hid (Whole V N 31 #[.slice oo l.length oc, .bool db]) := Lib.hid (by rw [HV.out, HN.out]; exact Whole.new _ _ _)
  have HC := Lib.hid (repValid_any ⟨l, db⟩ oo oc hc1 hc2 V (hi.below stEv HB.out))
  rw [hv] at HC
  dsimp only at HC
  obtain ⟨R, HR0⟩ : ∃ R, Hid (R = textR ⟨l, db⟩) := ⟨_, Lib.hid rfl⟩
  have HRe : Hid (R = bodyE db l) := Lib.hid (by rw [HR0.out]; rfl)
  rw [← HR0.out]
  obtain ⟨n, Hn⟩ : ∃ n, Hid (n = l.length) := ⟨_, Lib.hid rfl⟩
  rw [← Hn.out] at hn4 HC HV HW ⊢
  have HSz : Hid (∀ k, k ≤ n → (bodyE db (l.take k)).size ≤ 8 + k * 1000001) := Lib.hid (fun k hk => bodyE_size db (fun e he => (HE.out e he).1) k (by rw [← Hn.out]; exact hk))
  have HHd := Lib.hid (repHead_any db)
  obtain ⟨hd0, Hh0⟩ : ∃ h, Hid (h = headB db) := ⟨_, Lib.hid rfl⟩
  rw [← Hh0.out] at HHd
  have hh0 : hd0.size ≤ 7 := by rw [Hh0.out]; exact headB_size db
  clear hi hE hT ht hv hc1 HR0
  go_enter Tryz.func13, Tryz.ntmps13
  go_wp2_with fail
  rw [← HV.out, ← HN.out]
  refine HC.out.mono ?_
  rintro e w1 ⟨rfl, hb⟩
  have HB1 := Lib.hid (below_step HB.out hb)
  have c0 : w1.cell? ⟨N, 0, none⟩ = some (.slice oo n oc) := (whole_belowM HW.out hb).cell 0
  have c1 : w1.cell? ⟨N, 1, none⟩ = some (.bool db) := (whole_belowM HW.out hb).cell 1
  clear hb
  go_wp2_with fail
  refine (HHd.out w1).mono ?_
  rintro e _ ⟨rfl, rfl⟩
  go_wp2_with fail
  go_loopw [4, 19] (fun sv i wr => ∃ (k : Nat) (s : ByteArray), k ≤ n ∧ sv = .string s ∧ i = .int .i64 k ∧ s.size ≤ 8 + k * 1000001 ∧ Hid (Below W.heap.size W wr ∧ s = bodyE db (l.take k))) (fun _ i _ => n - (intOf i).toNat)
  case atStart => exact ⟨0, _, Nat.zero_le _, rfl, by go_num, by rw [Hh0.out]; exact HSz.out 0 (Nat.zero_le _), Lib.hid ⟨HB1.out, by rw [Hh0.out]; rfl⟩⟩
  case round =>
    obtain ⟨k, s, hk, rfl, rfl, hss, HR⟩ := hrel
    by_cases hkn : k < n
    · have hd : decide ((k : Int) < n) = true := decide_eq_true (by omega)
      have hb0 : (0 : Int) ≤ k := by omega
      have hb1 : (k : Int) < n := by omega
      have hkl : k < l.length := by rw [← Hn.out]; exact hkn
      obtain ⟨bk, off, cs, rfl, hbk, hrg, rfl, hsz⟩ := HI.out.at hkl
      obtain ⟨y, Hy⟩ : ∃ m, Hid (m = l[k]) := ⟨_, Lib.hid rfl⟩
      rw [← Hy.out] at hrg hsz
      have HRg := Lib.hid (rangeB hrg hbk HR.out.1)
      have HOne := Lib.hid (evC_one y)
      have HEy : Hid _ := Lib.hid (HE.out l[k] (List.getElem_mem hkl))
      rw [← Hy.out] at HEy
      obtain ⟨U, HU⟩ : ∃ w, Hid (w = wr.alloc (.cells (evC y).toArray 50)) := ⟨_, Lib.hid rfl⟩
      obtain ⟨g, Hg⟩ : ∃ g, Hid (g = wr.heap.size) := ⟨_, Lib.hid rfl⟩
      have HWU : Hid (Whole U g 50 (evC y).toArray) := Lib.hid (by rw [HU.out, Hg.out]; exact Whole.new _ _ _)
      have HBWU : Hid (Below W.heap.size W U) := Lib.hid (below_step HR.out.1 (by rw [HU.out]; exact (Below.refl _ _).alloc (Nat.le_refl _) _))
      obtain ⟨ty, Hty⟩ : ∃ t : ByteArray, Hid (t = ⟨(textE y).toArray⟩) := ⟨_, Lib.hid rfl⟩
      have HCn := Lib.hid (HEy.out.2 U (HT.out.1.below HBWU.out) (HT.out.2.below HBWU.out))
      rw [← Hty.out] at HCn
      have hty : ty.size ≤ 1000000 := by rw [Hty.out]; exact HEy.out.1
      have HNx : Hid (bodyE db (l.take (k + 1)) = bodyE db (l.take k) ++ (ty ++ ⟨#[10]⟩)) := Lib.hid (by rw [bodyE_next db hkl, Hty.out, Hy.out]; rfl)
      clear hrg hsz hbk
      go_wp2_with (first
        | (with_reducible show wpList _ _ _ (Oper.mk _ (Op.load 50 _) _ _ _ _ :: _) _ _; refine wpList_load_mid rfl _ _ rfl bk (off + k * 14) rfl _ _ HRg.out Tryz.underlying50 rfl (HSp.out.trans rfl) ?_)
        | (with_reducible show wpList _ _ _ (Oper.mk _ (Op.store 50 _ _) _ _ _ _ :: _) _ _; refine Hid.out ?_))
      refine Lib.hid ?_
      refine wpList_store_new rfl _ _ _ rfl _ (evC y).toArray rfl rfl (HSp.out.trans rfl) rfl HOne.out ?_
      rw [← HU.out, ← Hg.out]
      go_simp
      go_wp2_with (first
        | (with_reducible show wpList _ _ _ (Oper.mk _ (Op.load 50 _) _ _ _ _ :: _) _ _; refine wpList_load_mid rfl _ _ rfl g 0 rfl _ _ HWU.out.range Tryz.underlying50 rfl (HSp.out.trans rfl) ?_))
      refine HCn.out.mono ?_
      rintro e w3 ⟨rfl, hb3⟩
      have HB3 := Lib.hid (below_step HBWU.out hb3)
      clear hb3
      go_wp2_with fail
      go_round
      case rel => exact ⟨k + 1, s ++ (ty ++ ⟨#[10]⟩), by omega, rfl, by go_num, by have h := HSz.out (k + 1) (by omega); rw [HNx.out, ← HR.out.2] at h; exact h, Lib.hid ⟨HB3.out, by rw [HNx.out, ← HR.out.2]⟩⟩
      case measure => simp [intOf]; omega
    · obtain rfl : k = n := by omega
      have hd : decide ((k : Int) < k) = false := decide_eq_false (by omega)
      obtain rfl : s = R := by rw [HRe.out, HR.out.2, Hn.out, List.take_length]
      go_wp2_with fail
      go_ret2
      exact ⟨rfl, HR.out.1⟩
end Go.Proofs.YtfkejnnbfneieaaGreatDoor

/- The lines of a report's text; what report.Parse says. -/
namespace Go.Proofs.YtfkejnnbfneieaaGreatDoor
open Go.RowKit Go.Sort
open Evt

namespace Evt
theorem word_lf {s : List UInt8} (h : Lex.nameB s = true) : (10 : UInt8) ∉ s := by
  unfold Lex.nameB at h
  simp only [Bool.and_eq_true] at h
  intro hc
  have := List.all_eq_true.1 h.1.2 _ hc
  exact absurd this (by decide)
theorem enc_lf (t : List UInt8) : (10 : UInt8) ∉ Lex.enc t := by
  unfold Lex.enc
  intro h
  obtain ⟨c, -, hc⟩ := List.mem_flatMap.1 h
  unfold Lex.encC at hc
  split at hc
  · exact absurd hc (by decide)
  · split at hc
    · exact absurd hc (by decide)
    · split at hc
      · exact absurd hc (by decide)
      · rename_i h3
        rw [List.mem_singleton] at hc
        exact h3 (by rw [← hc]; rfl)
theorem good_lf {x : KT} (h : good x) : (10 : UInt8) ∉ Lex.written x.1 x.2 := by
  unfold Lex.written
  split
  · unfold Lex.quote
    intro hc
    simp only [List.mem_cons, List.mem_append, List.not_mem_nil, or_false] at hc
    rcases hc with hc | hc | hc
    · exact absurd hc (by decide)
    · exact enc_lf _ hc
    · exact absurd hc (by decide)
  · rename_i h3
    rcases h with ⟨-, h⟩ | ⟨-, -, h, -⟩ | h
    · exact word_lf h
    · intro hc
      exact absurd (h _ hc) (by decide)
    · exact absurd h h3
theorem join_lf {l : List (List UInt8)} (h : ∀ x ∈ l, (10 : UInt8) ∉ x) : (10 : UInt8) ∉ Lib.join l [32] := by
  unfold Lib.join
  induction l with
  | nil => simp [List.intercalate]
  | cons x r ih =>
    cases r with
    | nil => simpa [List.intercalate] using h x (by simp)
    | cons y r =>
      have e : [32].intercalate (x :: y :: r) = x ++ ([32] ++ [32].intercalate (y :: r)) := by simp [List.intercalate, List.intersperse]
      rw [e, List.mem_append, List.mem_append]
      rintro (hc | hc | hc)
      · exact h x (by simp) hc
      · exact absurd hc (by decide)
      · exact ih (fun z hz => h z (by simp [hz])) hc
theorem text_lf {e : Ev} (h : valid e = true) : (10 : UInt8) ∉ textE e := by
  obtain ⟨o1, o2, -⟩ := valid_op h
  unfold textE
  rw [rows_toks]
  refine join_lf fun x hx => ?_
  obtain ⟨t, ht, rfl⟩ := List.mem_map.1 hx
  rcases List.mem_cons.1 ht with rfl | ht
  · exact good_lf (good_word o1 o2)
  · exact good_lf (toks_good h t ht)
/-! ### Lines -/
def linesA : List UInt8 → List UInt8 → List (List UInt8)
  | cur, [] => if cur = [] then [] else [cur]
  | cur, c :: r => if c = 10 then cur :: linesA [] r else linesA (cur ++ [c]) r
def linesL (s : List UInt8) : List (List UInt8) := linesA [] s
theorem linesA_cut : ∀ (x cur r : List UInt8), (10 : UInt8) ∉ x → linesA cur (x ++ 10 :: r) = (cur ++ x) :: linesL r
  | [], cur, r, _ => by
    show linesA cur (10 :: r) = _
    unfold linesA
    rw [if_pos rfl, List.append_nil]
    rfl
  | c :: x, cur, r, h => by
    have hc : ¬ c = 10 := fun e => h (by rw [e]; simp)
    show linesA cur (c :: (x ++ 10 :: r)) = _
    unfold linesA
    rw [if_neg hc, linesA_cut x (cur ++ [c]) r (fun hh => h (by simp [hh]))]
    simp
theorem lines_cut {x r : List UInt8} (h : (10 : UInt8) ∉ x) : linesL (x ++ 10 :: r) = x :: linesL r := by
  unfold linesL
  rw [linesA_cut x [] r h]
  rfl
theorem linesA_last : ∀ (x cur : List UInt8), (10 : UInt8) ∉ x → linesA cur x = if cur ++ x = [] then [] else [cur ++ x]
  | [], cur, _ => by unfold linesA; rw [List.append_nil]
  | c :: x, cur, h => by
    have hc : ¬ c = 10 := fun e => h (by rw [e]; simp)
    unfold linesA
    rw [if_neg hc, linesA_last x (cur ++ [c]) (fun hh => h (by simp [hh]))]
    simp
theorem lines_last {x : List UInt8} (h : (10 : UInt8) ∉ x) (hx : x ≠ []) : linesL x = [x] := by
  unfold linesL
  rw [linesA_last x [] h, List.nil_append, if_neg hx]
theorem lines_nil : linesL [] = [] := rfl
theorem linesA_len : ∀ (s cur : List UInt8), (linesA cur s).length ≤ s.length + 1
  | [], cur => by unfold linesA; split <;> simp
  | c :: r, cur => by
    unfold linesA
    split
    · have := linesA_len r []
      simp only [List.length_cons]
      omega
    · have := linesA_len r (cur ++ [c])
      simp only [List.length_cons]
      omega
theorem lines_len' (s : List UInt8) : (linesL s).length ≤ s.length + 1 := linesA_len s []
def unl (l : List (List UInt8)) : List UInt8 := l.flatMap (· ++ [10])
theorem lines_unl : ∀ {l : List (List UInt8)}, (∀ x ∈ l, (10 : UInt8) ∉ x) → linesL (unl l) = l
  | [], _ => rfl
  | x :: l, h => by
    have e : unl (x :: l) = x ++ 10 :: unl l := by unfold unl; simp
    rw [e, lines_cut (h x (by simp)), lines_unl fun y hy => h y (by simp [hy])]
theorem data_app (a b : ByteArray) : (a ++ b).data.toList = a.data.toList ++ b.data.toList := by simp
theorem bodyE_data (db : Bool) (l : List Ev) : (bodyE db l).data.toList = unl ((headB db).data.toList :: l.map textE) := by
  have go : ∀ (l : List Ev) (s : ByteArray), (l.foldl (fun s e => s ++ lineE e) s).data.toList = s.data.toList ++ unl (l.map textE) := by
    intro l
    induction l with
    | nil => intro s; simp [unl]
    | cons x l ih =>
      intro s
      rw [List.foldl_cons, ih, data_app]
      unfold lineE
      rw [data_app]
      simp [unl]
  unfold bodyE
  rw [go, data_app]
  simp [unl]
theorem headB_lf (b : Bool) : (10 : UInt8) ∉ (headB b).data.toList := by cases b <;> decide
theorem lines_text {r : Rp} (h : ∀ e ∈ r.opts, valid e = true) : linesL (textR r).data.toList = (headB r.doubt).data.toList :: r.opts.map textE := by
  unfold textR
  rw [bodyE_data, lines_unl]
  intro x hx
  rcases List.mem_cons.1 hx with rfl | hx
  · exact headB_lf _
  · obtain ⟨e, he, rfl⟩ := List.mem_map.1 hx
    exact text_lf (h e he)
/-! ### What report.Parse says -/
noncomputable def optsL : List (List UInt8) → Option (List Ev)
  | [] => some []
  | x :: l => match parseE x, optsL l with
    | some e, some r => some (e :: r)
    | _, _ => none
theorem optsL_map : ∀ {l : List Ev}, (∀ e ∈ l, valid e = true) → optsL (l.map textE) = some l
  | [], _ => rfl
  | e :: l, h => by
    show (match parseE (textE e), optsL (l.map textE) with | some e, some r => some (e :: r) | _, _ => none) = _
    rw [parse_text (h e (by simp)), optsL_map fun x hx => h x (by simp [hx])]
theorem optsL_valid : ∀ {l : List (List UInt8)} {r : List Ev}, optsL l = some r → ∀ e ∈ r, valid e = true
  | [], r, h, e, he => by cases h; cases he
  | x :: l, r, h, e, he => by
    unfold optsL at h
    split at h
    · rename_i a b ha hb
      cases h
      rcases List.mem_cons.1 he with rfl | he
      · exact (parse_sound ha).1
      · exact optsL_valid hb e he
    · cases h
def perhB (x : List UInt8) : Bool := decide (x = (headB true).data.toList)
/-- The report that lines lead to. -/
noncomputable def candR (s : List UInt8) : Option Rp := match linesL s with
  | [] => some ⟨[], false⟩
  | x :: l => (optsL l).map fun o => ⟨o, perhB x⟩
noncomputable def parseR (s : ByteArray) : Option Rp := match candR s.data.toList with
  | none => none
  | some r => if validR r = true ∧ textR r = s then some r else none
theorem parseR_sound {s : ByteArray} {r : Rp} (h : parseR s = some r) : validR r = true ∧ textR r = s := by
  unfold parseR at h
  split at h
  · cases h
  · split at h
    · rename_i hc
      cases h
      exact hc
    · cases h
theorem validR_each {r : Rp} (h : validR r = true) : ∀ e ∈ r.opts, valid e = true := by
  unfold validR at h
  simp only [Bool.and_eq_true] at h
  intro e he
  obtain ⟨i, hi, rfl⟩ := List.getElem_of_mem he
  exact okUp_valid h.2.2 _ (List.getElem_mem hi)
theorem parseR_text {r : Rp} (h : validR r = true) : parseR (textR r) = some r := by
  have hv := validR_each h
  have hc : candR (textR r).data.toList = some r := by
    unfold candR
    rw [lines_text hv]
    dsimp only
    rw [optsL_map hv]
    have : perhB (headB r.doubt).data.toList = r.doubt := by cases r.doubt <;> decide
    rw [this]
    rfl
  unfold parseR
  rw [hc]
  exact if_pos ⟨h, rfl⟩
theorem textR_inj {a b : Rp} (ha : validR a = true) (hb : validR b = true) (h : textR a = textR b) : a = b := by
  have h1 := parseR_text ha
  rw [h, parseR_text hb] at h1
  exact (Option.some.inj h1).symm
end Evt
end Go.Proofs.YtfkejnnbfneieaaGreatDoor
