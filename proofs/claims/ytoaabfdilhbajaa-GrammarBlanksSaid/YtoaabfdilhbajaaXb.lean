/- Layer 7: lexer.IsName. -/
import Derived.Test.YtoaabfdilhbajaaXa
import Derived.Test.YtoaabfdilhbajaaRange
namespace Go.Proofs.Ytoaabfdilhbajaa
open Go.RowKit Go.Shelf

attribute [local go_sem] Oper.semAt_some

theorem let_t {c : UInt8} (h : (97 ≤ c.toNat ∧ c.toNat ≤ 122) ∨ (65 ≤ c.toNat ∧ c.toNat ≤ 90) ∨ c.toNat = 95) : letB c = true := by
  unfold letB; simp only [Bool.or_eq_true, Bool.and_eq_true, decide_eq_true_eq]; omega
theorem let_f {c : UInt8} (h : ¬ ((97 ≤ c.toNat ∧ c.toNat ≤ 122) ∨ (65 ≤ c.toNat ∧ c.toNat ≤ 90) ∨ c.toNat = 95)) : letB c = false := by
  rw [Bool.eq_false_iff]; unfold letB; simp only [ne_eq, Bool.or_eq_true, Bool.and_eq_true, decide_eq_true_eq]; omega
theorem dig_t {c : UInt8} (h : 48 ≤ c.toNat ∧ c.toNat ≤ 57) : digB c = true := by
  unfold digB; simp only [Bool.and_eq_true, decide_eq_true_eq]; omega
theorem dig_f {c : UInt8} (h : ¬ (48 ≤ c.toNat ∧ c.toNat ≤ 57)) : digB c = false := by
  rw [Bool.eq_false_iff]; unfold digB; simp only [ne_eq, Bool.and_eq_true, decide_eq_true_eq]; omega
theorem ret_b {a b : Bool} (h : b = a) : Ending.returned (.bool a) = .returned (.bool b) := by rw [h]

set_option maxRecDepth 100000 in
set_option maxHeartbeats 2000000 in
theorem isLetter_any (c : UInt8) (w : World) :
    Calls Try.prog 50 #[.int .u8 (c.toNat : Int)] w fun e w' => e = .returned (.bool (letB c)) ∧ w' = w := by
  have hu : c.toNat < 256 := c.toNat_lt
  by_cases h0 : (97 : Int) ≤ (c.toNat : Int) <;> by_cases h1 : (c.toNat : Int) ≤ 122 <;> by_cases h2 : (65 : Int) ≤ (c.toNat : Int) <;> by_cases h3 : (c.toNat : Int) ≤ 90 <;> by_cases h4 : (c.toNat : Int) = 95
  all_goals
    go_enter Try.func50, Try.ntmps50
    go_wp2_with (fail)
    first
      | exact bodyPost_ret (v := .bool true) (by simp [results, Try.results50, go_sem]; try first | rfl | assumption | omega) rfl ⟨ret_b (let_t (by omega)), rfl⟩
      | exact bodyPost_ret (v := .bool false) (by simp [results, Try.results50, go_sem]; try first | rfl | assumption | omega) rfl ⟨ret_b (let_f (by omega)), rfl⟩

set_option maxRecDepth 100000 in
set_option maxHeartbeats 2000000 in
theorem isDigit_any (c : UInt8) (w : World) :
    Calls Try.prog 49 #[.int .u8 (c.toNat : Int)] w fun e w' => e = .returned (.bool (digB c)) ∧ w' = w := by
  have hu : c.toNat < 256 := c.toNat_lt
  by_cases h0 : (48 : Int) ≤ (c.toNat : Int) <;> by_cases h1 : (c.toNat : Int) ≤ 57
  all_goals
    go_enter Try.func49, Try.ntmps49
    go_wp2_with (fail)
    first
      | exact bodyPost_ret (v := .bool true) (by simp [results, Try.results49, go_sem]; try first | rfl | assumption | omega) rfl ⟨ret_b (dig_t (by omega)), rfl⟩
      | exact bodyPost_ret (v := .bool false) (by simp [results, Try.results49, go_sem]; try first | rfl | assumption | omega) rfl ⟨ret_b (dig_f (by omega)), rfl⟩

theorem loop_ne (s : ByteArray) : ∀ (n i : Nat) (r : List UInt8), s.size - i = n → r ≠ [] → ByteArray.toList.loop s i r ≠ [] := by
  intro n
  induction n with
  | zero => intro i r h hr; unfold ByteArray.toList.loop; rw [if_neg (by omega)]; simpa using hr
  | succ n ih => intro i r h hr; unfold ByteArray.toList.loop; rw [if_pos (by omega)]; exact ih _ _ (by omega) (by simp)
theorem toList_ne (s : ByteArray) (h : s.size ≠ 0) : s.toList ≠ [] := by
  unfold ByteArray.toList ByteArray.toList.loop
  rw [if_pos (by omega)]
  exact loop_ne s _ _ _ rfl (by simp)
theorem dlen (s : ByteArray) : s.data.toList.length = s.size := by rw [Array.length_toList]; rfl

set_option maxRecDepth 100000 in
set_option maxHeartbeats 2000000 in
theorem isName_any (s : ByteArray) (w : World) :
    Calls Try.prog 34 #[.string s] w fun e w' => e = .returned (.bool (nameB s)) ∧ w' = w := by
  obtain ⟨q, hq⟩ : ∃ q, Hid (nameB s = q) := ⟨_, Lib.hid rfl⟩
  rw [hq.out]
  by_cases h0 : s.size = 0
  · have h0b : s = ByteArray.mk #[] := by
      have : s.data = #[] := by apply Array.eq_empty_of_size_eq_zero; exact h0
      cases s; simp at this; rw [this]
    subst h0b
    have hF : q = false := by rw [← hq.out]; rfl
    subst hF
    go_enter Try.func34, Try.ntmps34
    go_wp2_with (fail)
    exact bodyPost_ret (v := .bool false) (by simp [results, Try.results34, go_sem]; try rfl) rfl ⟨rfl, rfl⟩
  have hpos : 0 < s.size := by omega
  have hne : s.toList.isEmpty = false := by rw [List.isEmpty_eq_false_iff]; exact toList_ne s h0
  obtain ⟨c, r, hcr⟩ : ∃ c r, s.data.toList = c :: r := by
    cases h : s.data.toList with
    | nil => have := dlen s; rw [h] at this; simp at this; omega
    | cons c r => exact ⟨c, r, rfl⟩
  have hlen : r.length + 1 = s.size := by rw [← dlen s, hcr]; rfl
  have hc0 : Hid (s[0] = c) := Lib.hid (by
    have : s.data.toList[0]'(by rw [dlen]; exact hpos) = c := by simp [hcr]
    exact this)
  have HQ : Hid (q = (decide (r.length < 32) && !digB c && (c :: r).all (fun d => letB d || digB d))) := Lib.hid (by rw [← hq.out]; unfold nameB; rw [hcr]; rfl)
  have hposI : (0 : Int) < (s.size : Int) := by omega
  by_cases h32 : 32 < s.size
  · have h32I : (32 : Int) < (s.size : Int) := by omega
    have hF : q = false := by rw [HQ.out, decide_eq_false (by omega)]; rfl
    subst hF
    go_enter Try.func34, Try.ntmps34
    go_wp2_with (fail)
    exact bodyPost_ret (v := .bool false) (by simp [results, Try.results34, go_sem]; try rfl) rfl ⟨rfl, rfl⟩
  have h32I : ¬ (32 : Int) < (s.size : Int) := by omega
  have Hd := Lib.hid (isDigit_any c w)
  obtain ⟨dc, hdc⟩ : ∃ d, Hid (digB c = d) := ⟨_, Lib.hid rfl⟩
  rw [hdc.out] at Hd
  cases dc
  case true =>
    have hF : q = false := by rw [HQ.out, hdc.out]; simp
    subst hF
    go_enter Try.func34, Try.ntmps34
    go_wp2_with (go_at_call 49; rw [hc0.out]; (with_reducible refine Hd.out.mono ?_); rintro e w1 ⟨rfl, hw1⟩; subst w1)
    exact bodyPost_ret (v := .bool false) (by simp [results, Try.results34, go_sem]; try rfl) rfl ⟨rfl, rfl⟩
  have HQ2 : Hid (q = (s.data.toList.drop 0).all (fun d => letB d || digB d)) := Lib.hid (by rw [HQ.out, hdc.out, decide_eq_true (by omega), hcr]; rfl)
  clear HQ hcr hlen
  go_enter Try.func34, Try.ntmps34
  go_wp2_with (go_at_call 49; rw [hc0.out]; (with_reducible refine Hd.out.mono ?_); rintro e w1 ⟨rfl, hw1⟩; subst w1)
  go_loopw [3, 18] (fun _ iv wr => ∃ k : Nat, k ≤ s.size ∧ iv = .int .i64 (k : Int) ∧ q = (s.data.toList.drop k).all (fun d => letB d || digB d) ∧ wr = w) (fun _ iv _ => s.size - (intOf iv).toNat)
  case atStart => exact ⟨0, Nat.zero_le _, rfl, HQ2.out, rfl⟩
  case round =>
    obtain ⟨k, hk, rfl, hqk, hwr⟩ := hrel
    subst wr
    have HK := Lib.hid hqk
    clear hqk
    by_cases hlt : k < s.size
    · have hkI : (k : Int) < (s.size : Int) := by omega
      have hkI0 : (0 : Int) ≤ (k : Int) := by omega
      have hkl : k < s.data.toList.length := by rw [dlen]; exact hlt
      obtain ⟨d, hd⟩ : ∃ d, Hid (s[k] = d) := ⟨_, Lib.hid rfl⟩
      have HK2 : Hid (q = ((letB d || digB d) && (s.data.toList.drop (k + 1)).all (fun d => letB d || digB d))) := Lib.hid (by
        have h1 : s.data.toList[k] = d := hd.out
        rw [HK.out, List.drop_eq_getElem_cons hkl, h1]; rfl)
      have HL := Lib.hid (isLetter_any d w)
      have HD := Lib.hid (isDigit_any d w)
      obtain ⟨lb, hlb⟩ : ∃ v, Hid (letB d = v) := ⟨_, Lib.hid rfl⟩
      obtain ⟨db, hdb⟩ : ∃ v, Hid (digB d = v) := ⟨_, Lib.hid rfl⟩
      rw [hlb.out] at HL
      rw [hdb.out] at HD
      rw [hlb.out, hdb.out] at HK2
      cases lb
      · cases db
        · have hF : q = false := by rw [HK2.out]; rfl
          subst hF
          go_wp2_with (first | (go_at_call 50; rw [hd.out]; (with_reducible refine HL.out.mono ?_); rintro e w1 ⟨rfl, hw1⟩; subst w1) | (go_at_call 49; rw [hd.out]; (with_reducible refine HD.out.mono ?_); rintro e w1 ⟨rfl, hw1⟩; subst w1))
          exact bodyPost_ret (v := .bool false) (by simp [results, Try.results34, go_sem]; try rfl) rfl ⟨rfl, rfl⟩
        · go_wp2_with (first | (go_at_call 50; rw [hd.out]; (with_reducible refine HL.out.mono ?_); rintro e w1 ⟨rfl, hw1⟩; subst w1) | (go_at_call 49; rw [hd.out]; (with_reducible refine HD.out.mono ?_); rintro e w1 ⟨rfl, hw1⟩; subst w1))
          exact ⟨⟨k + 1, by omega, by simp, by rw [HK2.out]; rfl, by first | rfl | trivial⟩, by simp [intOf]; omega⟩
      · go_wp2_with (first | (go_at_call 50; rw [hd.out]; (with_reducible refine HL.out.mono ?_); rintro e w1 ⟨rfl, hw1⟩; subst w1))
        exact ⟨⟨k + 1, by omega, by simp, by rw [HK2.out]; simp, by first | rfl | trivial⟩, by simp [intOf]; omega⟩
    · obtain rfl : k = s.size := by omega
      have hkI : ¬ (s.size : Int) < (s.size : Int) := by omega
      have hT : q = true := by rw [HK.out, List.drop_eq_nil_of_le (by rw [dlen]; exact Nat.le_refl _)]; rfl
      subst hT
      go_wp2_with (fail)
      exact bodyPost_ret (v := .bool true) (by simp [results, Try.results34, go_sem]; try rfl) rfl ⟨rfl, rfl⟩
end Go.Proofs.Ytoaabfdilhbajaa
