/- LexerNames. -/
import Derived.Test.YtocbebkcpmodnaaLexQuotes
namespace Go.Proofs.Ytocbebkcpmodnaa
open Go.RowKit

/-- A number's digits. -/
def Digs (f : Nat) (s : ByteArray) : Prop := s.data.toList ≠ [] ∧ (∀ x ∈ s.data.toList, Lex.isDigit x = true) ∧ s.data.toList.length ≤ f
theorem digs_one {n : Nat} (h : n < 10) : Digs 1 ((⟨#[48, 49, 50, 51, 52, 53, 54, 55, 56, 57]⟩ : ByteArray).extract n (n + 1)) := by
  have key : ∀ c : UInt8, (([48, 49, 50, 51, 52, 53, 54, 55, 56, 57] : List UInt8).drop n).take 1 = [c] → Lex.isDigit c = true → Digs 1 ((⟨#[48, 49, 50, 51, 52, 53, 54, 55, 56, 57]⟩ : ByteArray).extract n (n + 1)) := fun c h1 h2 => by
    have e : ((⟨#[48, 49, 50, 51, 52, 53, 54, 55, 56, 57]⟩ : ByteArray).extract n (n + 1)).data.toList = [c] := by
      rw [Lex.extract_list, show n + 1 - n = 1 by omega]
      exact h1
    unfold Digs
    rw [e]
    exact ⟨by simp, fun x hx => by rw [List.mem_singleton.1 hx]; exact h2, Nat.le_refl _⟩
  match n, h with
  | 0, _ => exact key 48 (by kernel_rfl) (by kernel_rfl)
  | 1, _ => exact key 49 (by kernel_rfl) (by kernel_rfl)
  | 2, _ => exact key 50 (by kernel_rfl) (by kernel_rfl)
  | 3, _ => exact key 51 (by kernel_rfl) (by kernel_rfl)
  | 4, _ => exact key 52 (by kernel_rfl) (by kernel_rfl)
  | 5, _ => exact key 53 (by kernel_rfl) (by kernel_rfl)
  | 6, _ => exact key 54 (by kernel_rfl) (by kernel_rfl)
  | 7, _ => exact key 55 (by kernel_rfl) (by kernel_rfl)
  | 8, _ => exact key 56 (by kernel_rfl) (by kernel_rfl)
  | 9, _ => exact key 57 (by kernel_rfl) (by kernel_rfl)

set_option maxRecDepth 100000 in
set_option maxHeartbeats 4000000 in
theorem decimal_any : ∀ (f : Nat), 1 ≤ f → f ≤ 7 → ∀ (n : Nat), n < 10 ^ f → ∀ w : World, Calls Try.prog 23 #[.int .i64 (n : Int)] w fun e w' => ∃ s, e = .returned (.string s) ∧ Digs f s ∧ w = w' := by
  intro f
  induction f with
  | zero => intro h; omega
  | succ f ih =>
    intro _ h7 n hn w
    by_cases h10 : n < 10
    · have hd : decide ((n : Int) < 10) = true := decide_eq_true (by omega)
      have hD := Lib.hid (digs_one h10)
      have h0 : (0 : Int) ≤ n := by omega
      have h1 : (n : Int) < 10 := by omega
      go_enter Try.func23, Try.ntmps23
      go_wp2_with fail
      go_ret
      exact ⟨_, rfl, ⟨hD.out.1, hD.out.2.1, Nat.le_trans hD.out.2.2 (by omega)⟩, rfl⟩
    · have hd : decide ((n : Int) < 10) = false := decide_eq_false (by omega)
      have hf : 1 ≤ f := by
        rcases Nat.eq_zero_or_pos f with h | h
        · subst h; simp at hn; omega
        · exact h
      have hq : n / 10 < 10 ^ f := by
        rw [Nat.pow_succ] at hn
        omega
      have hr : n % 10 < 10 := by omega
      have hn7 : (n : Int) < 10000000 := by
        have : 10 ^ (f + 1) ≤ 10 ^ 7 := Nat.pow_le_pow_right (by omega) h7
        have e : 10 ^ 7 = 10000000 := rfl
        omega
      have hr1 : n % 10 < 10 ^ 1 := by omega
      obtain ⟨q, Hq⟩ : ∃ q, Hid (q = n / 10) := ⟨_, Lib.hid rfl⟩
      obtain ⟨r, Hr⟩ : ∃ q, Hid (q = n % 10) := ⟨_, Lib.hid rfl⟩
      have hq1 : (n : Int).tdiv 10 = (q : Int) := by rw [Hq.out]; rw [Int.tdiv_eq_ediv_of_nonneg (by omega)]; omega
      have hr2 : (n : Int).tmod 10 = (r : Int) := by rw [Hr.out]; rw [Int.tmod_eq_emod_of_nonneg (by omega)]; omega
      have HQ := Lib.hid (ih hf (by omega) (n / 10) hq)
      have hrd : r < 10 := by rw [Hr.out]; exact hr
      rw [← Hq.out] at HQ
      have hdr : decide ((r : Int) < 10) = true := decide_eq_true (by omega)
      have hD := Lib.hid (digs_one hrd)
      have HR : Hid (∀ w : World, Calls Try.prog 23 #[.int .i64 (r : Int)] w fun e w' => ∃ s, e = .returned (.string s) ∧ Digs 1 s ∧ w = w') := Lib.hid fun w => by
        have h0 : (0 : Int) ≤ r := by omega
        have h1 : (r : Int) < 10 := by omega
        clear hd hq1 hr2 hn7
        go_enter Try.func23, Try.ntmps23
        go_wp2_with fail
        go_ret
        exact ⟨_, rfl, hD.out, rfl⟩
      have hqb : (q : Int) < 10000000 := by have := Hq.out; omega
      have hqw : (n : Int) / 10 = q := by have := Hq.out; omega
      have hrw : (n : Int) % 10 = r := by have := Hr.out; omega
      clear hq1 hr2
      clear hq hr hr1 ih hn hdr hD
      go_enter Try.func23, Try.ntmps23
      have HSz : Hid (∀ s t : ByteArray, Digs f s → Digs 1 t → ¬ (9223372036854775807 < s.size + t.size)) := Lib.hid fun s t hs ht => by
        have h1 := hs.2.2
        have h2 := ht.2.2
        have h3 : s.data.toList.length = s.size := rfl
        have h4 : t.data.toList.length = t.size := rfl
        omega
      go_wp2_with (first | (go_at_call 23; with_reducible refine (HQ.out _).mono ?_; rintro e w1 ⟨s, rfl, hs, rfl⟩; have HS := Lib.hid hs; clear hs) | (go_at_call 23; with_reducible refine (HR.out _).mono ?_; rintro e w1 ⟨t, rfl, ht, rfl⟩; have hsz := HSz.out _ _ HS.out ht; have HT := Lib.hid ht; clear ht))
      go_ret
      refine ⟨_, rfl, ?_, rfl⟩
      have e : (s ++ t).data.toList = s.data.toList ++ t.data.toList := by rw [ByteArray.data_append]; simp
      unfold Digs
      rw [e]
      refine ⟨by simp [HS.out.1], fun x hx => ?_, by rw [List.length_append]; have := HS.out.2.2; have := HT.out.2.2; omega⟩
      rcases List.mem_append.1 hx with h | h
      · exact HS.out.2.1 x h
      · exact HT.out.2.1 x h

def symT : ByteArray := ⟨#[61, 59, 60, 62, 40, 41, 123, 125, 91, 93, 44, 46, 58, 47, 45, 43, 42]⟩
theorem sym_at {m : Nat} (h : m < 17) : ∃ c, Lex.isSym c = true ∧ symT.extract m (m + 1) = ⟨#[c]⟩ := by
  have key : ∀ c, (symT.data.toList.drop m).take 1 = [c] → Lex.isSym c = true → ∃ c, Lex.isSym c = true ∧ symT.extract m (m + 1) = ⟨#[c]⟩ := fun c h1 h2 => ⟨c, h2, by rw [Lex.extract_list, show m + 1 - m = 1 by omega, h1]⟩
  match m, h with
  | 0, _ => exact key 61 (by kernel_rfl) (by kernel_rfl)
  | 1, _ => exact key 59 (by kernel_rfl) (by kernel_rfl)
  | 2, _ => exact key 60 (by kernel_rfl) (by kernel_rfl)
  | 3, _ => exact key 62 (by kernel_rfl) (by kernel_rfl)
  | 4, _ => exact key 40 (by kernel_rfl) (by kernel_rfl)
  | 5, _ => exact key 41 (by kernel_rfl) (by kernel_rfl)
  | 6, _ => exact key 123 (by kernel_rfl) (by kernel_rfl)
  | 7, _ => exact key 125 (by kernel_rfl) (by kernel_rfl)
  | 8, _ => exact key 91 (by kernel_rfl) (by kernel_rfl)
  | 9, _ => exact key 93 (by kernel_rfl) (by kernel_rfl)
  | 10, _ => exact key 44 (by kernel_rfl) (by kernel_rfl)
  | 11, _ => exact key 46 (by kernel_rfl) (by kernel_rfl)
  | 12, _ => exact key 58 (by kernel_rfl) (by kernel_rfl)
  | 13, _ => exact key 47 (by kernel_rfl) (by kernel_rfl)
  | 14, _ => exact key 45 (by kernel_rfl) (by kernel_rfl)
  | 15, _ => exact key 43 (by kernel_rfl) (by kernel_rfl)
  | 16, _ => exact key 42 (by kernel_rfl) (by kernel_rfl)
  | n + 17, h => omega

end Go.Proofs.Ytocbebkcpmodnaa
