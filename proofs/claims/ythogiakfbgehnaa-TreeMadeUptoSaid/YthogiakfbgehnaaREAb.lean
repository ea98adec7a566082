/- Texts joined: Yd Ye Yf Bc Bd. -/
import Derived.Test.YthogiakfbgehnaaREAa
set_option linter.unusedVariables false
set_option linter.unusedSimpArgs false
namespace Go.Proofs.Ythogiakfbgehnaa
open Go.RowKit Go.Shelf

attribute [local go_sem] Oper.semAt_some

/-- In which part of the bytes one lies. -/
theorem byte_part (n : Nat) : n < 48 ∨ (48 ≤ n ∧ n ≤ 57) ∨ (57 < n ∧ n < 65) ∨ (65 ≤ n ∧ n ≤ 90) ∨ (90 < n ∧ n < 95) ∨ n = 95 ∨ n = 96 ∨ (97 ≤ n ∧ n ≤ 122) ∨ 122 < n := by omega
/-- What stands at a place of a name. -/
def atP (k : Nat) (d : UInt8) : Bool := letB d || (decide (0 < k) && digB d)

set_option maxRecDepth 100000 in
set_option maxHeartbeats 4000000 in
theorem refIsName_any (s : ByteArray) (w : World) :
    Calls Try.prog 136 #[.string s] w fun e w' => e = .returned (.bool (nameB s)) ∧ w' = w := by
  obtain ⟨q, hq⟩ : ∃ q, Hid (nameB s = q) := ⟨_, Lib.hid rfl⟩
  rw [hq.out]
  by_cases h0 : s.size < 1
  · have h0I : (s.size : Int) < 1 := by omega
    have hF : q = false := by
      rw [← hq.out]
      unfold nameB
      have : s.data.toList = [] := List.eq_nil_of_length_eq_zero (by rw [dlen]; omega)
      rw [this]; rfl
    subst hF
    go_enter Try.func136, Try.ntmps136
    go_wp2_with (fail)
    exact bodyPost_ret (v := .bool false) (by simp [results, Try.results136, go_sem]; try first | rfl | assumption | omega) rfl ⟨rfl, rfl⟩
  have h0I : ¬ (s.size : Int) < 1 := by omega
  obtain ⟨c, r, hcr⟩ : ∃ c r, s.data.toList = c :: r := by
    cases h : s.data.toList with
    | nil => have := dlen s; rw [h] at this; simp at this; omega
    | cons c r => exact ⟨c, r, rfl⟩
  have hlen : r.length + 1 = s.size := by rw [← dlen s, hcr]; rfl
  have HQ : Hid (q = (decide (r.length < 32) && !digB c && (c :: r).all (fun d => letB d || digB d))) := Lib.hid (by rw [← hq.out]; unfold nameB; rw [hcr]; rfl)
  by_cases h32 : 32 < s.size
  · have h32I : (32 : Int) < (s.size : Int) := by omega
    have hF : q = false := by rw [HQ.out, decide_eq_false (by omega)]; rfl
    subst hF
    go_enter Try.func136, Try.ntmps136
    go_wp2_with (fail)
    exact bodyPost_ret (v := .bool false) (by simp [results, Try.results136, go_sem]; try first | rfl | assumption | omega) rfl ⟨rfl, rfl⟩
  have h32I : ¬ (32 : Int) < (s.size : Int) := by omega
  have HQ0 : Hid (∀ d, s.data.toList[0]? = some d → q = (atP 0 d && (s.data.toList.drop 1).all (fun d => letB d || digB d))) := Lib.hid (fun d hd => by
    rw [hcr] at hd ⊢
    simp only [List.getElem?_cons_zero, Option.some.injEq] at hd
    subst hd
    rw [HQ.out, decide_eq_true (by omega), List.all_cons]
    unfold atP
    simp only [List.drop_succ_cons, List.drop_zero]
    cases hL : letB c <;> cases hD : digB c <;> simp
    have : letB c = true → digB c = true → False := fun h1 h2 => by
      unfold letB at h1; unfold digB at h2
      simp only [Bool.or_eq_true, Bool.and_eq_true, decide_eq_true_eq] at h1 h2
      omega
    exact absurd hD (fun h => this hL h))
  clear HQ hcr hlen
  go_enter Try.func136, Try.ntmps136
  go_wp2_with (fail)
  go_loopw [3] (fun iv wr => ∃ k : Nat, k ≤ s.size ∧ iv = .int .i64 (k : Int) ∧ Hid (0 < k → q = (s.data.toList.drop k).all (fun d => letB d || digB d)) ∧ wr = w) (fun iv _ => s.size - (intOf iv).toNat)
  case atStart => exact ⟨0, Nat.zero_le _, rfl, Lib.hid (fun h => absurd h (Nat.lt_irrefl _)), rfl⟩
  case round =>
    obtain ⟨k, hk, rfl, HK, hwr⟩ := hrel
    subst wr
    by_cases hlt : k < s.size
    · have hkI : (k : Int) < (s.size : Int) := by omega
      have hkI0 : (0 : Int) ≤ (k : Int) := by omega
      have hkl : k < s.data.toList.length := by rw [dlen]; exact hlt
      obtain ⟨d, hd⟩ : ∃ d, Hid (s[k] = d) := ⟨_, Lib.hid rfl⟩
      have hd1 : s.data.toList[k] = d := hd.out
      have HD := hd.out
      have HK2 : Hid (q = (atP k d && (s.data.toList.drop (k + 1)).all (fun d => letB d || digB d))) := Lib.hid (by
        by_cases hk0 : k = 0
        · subst hk0
          exact HQ0.out d (by rw [List.getElem?_eq_getElem hkl, hd1])
        · rw [HK.out (by omega), List.drop_eq_getElem_cons hkl, hd1, List.all_cons]
          unfold atP
          rw [decide_eq_true (by omega), Bool.true_and])
      clear HK HQ0 hd1
      have hgood : Hid (atP k d = true → q = (s.data.toList.drop (k + 1)).all (fun d => letB d || digB d)) := Lib.hid (fun h => by rw [HK2.out, h, Bool.true_and])
      have hbad : Hid (atP k d = false → q = false) := Lib.hid (fun h => by rw [HK2.out, h, Bool.false_and])
      clear HK2
      have hA : Hid (atP k d = (letB d || (decide (0 < k) && digB d))) := Lib.hid rfl
      by_cases hk0 : k = 0
      · subst hk0
        rcases byte_part d.toNat with hp | hp | hp | hp | hp | hp | hp | hp | hp
        ·
          have t1 : ¬ (97 : Int) ≤ (d.toNat : Int) := by omega
          have t2 : (d.toNat : Int) ≤ 122 := by omega
          have t3 : ¬ (65 : Int) ≤ (d.toNat : Int) := by omega
          have t4 : (d.toNat : Int) ≤ 90 := by omega
          have t5 : ((d.toNat : Int) == 95) = false := by rw [beq_eq_false_iff_ne]; omega
          have t6 : (d.toNat : Int) < 48 := by omega
          have t7 : ¬ (57 : Int) < (d.toNat : Int) := by omega
          have hF := Lib.hid (hbad.out (by rw [hA.out, let_f (by omega), dig_f (by omega)]; cases decide (0 < 0) <;> rfl))
          go_wp2_with (fail)
          exact bodyPost_ret (v := .bool false) (by simp [results, Try.results136, go_sem]; try first | rfl | assumption | omega) rfl ⟨by rw [hF.out], rfl⟩
        ·
          have t1 : ¬ (97 : Int) ≤ (d.toNat : Int) := by omega
          have t2 : (d.toNat : Int) ≤ 122 := by omega
          have t3 : ¬ (65 : Int) ≤ (d.toNat : Int) := by omega
          have t4 : (d.toNat : Int) ≤ 90 := by omega
          have t5 : ((d.toNat : Int) == 95) = false := by rw [beq_eq_false_iff_ne]; omega
          have t6 : ¬ (d.toNat : Int) < 48 := by omega
          have t7 : ¬ (57 : Int) < (d.toNat : Int) := by omega
          have hF := Lib.hid (hbad.out (by rw [hA.out, let_f (by omega), dig_t (by omega)]; rfl))
          go_wp2_with (fail)
          exact bodyPost_ret (v := .bool false) (by simp [results, Try.results136, go_sem]; try first | rfl | assumption | omega) rfl ⟨by rw [hF.out], rfl⟩
        ·
          have t1 : ¬ (97 : Int) ≤ (d.toNat : Int) := by omega
          have t2 : (d.toNat : Int) ≤ 122 := by omega
          have t3 : ¬ (65 : Int) ≤ (d.toNat : Int) := by omega
          have t4 : (d.toNat : Int) ≤ 90 := by omega
          have t5 : ((d.toNat : Int) == 95) = false := by rw [beq_eq_false_iff_ne]; omega
          have t6 : ¬ (d.toNat : Int) < 48 := by omega
          have t7 : (57 : Int) < (d.toNat : Int) := by omega
          have hF := Lib.hid (hbad.out (by rw [hA.out, let_f (by omega), dig_f (by omega)]; cases decide (0 < 0) <;> rfl))
          go_wp2_with (fail)
          exact bodyPost_ret (v := .bool false) (by simp [results, Try.results136, go_sem]; try first | rfl | assumption | omega) rfl ⟨by rw [hF.out], rfl⟩
        ·
          have t1 : ¬ (97 : Int) ≤ (d.toNat : Int) := by omega
          have t2 : (d.toNat : Int) ≤ 122 := by omega
          have t3 : (65 : Int) ≤ (d.toNat : Int) := by omega
          have t4 : (d.toNat : Int) ≤ 90 := by omega
          have t5 : ((d.toNat : Int) == 95) = false := by rw [beq_eq_false_iff_ne]; omega
          have t6 : ¬ (d.toNat : Int) < 48 := by omega
          have t7 : (57 : Int) < (d.toNat : Int) := by omega
          have hG := Lib.hid (hgood.out (by rw [hA.out, let_t (by omega)]; rfl))
          go_wp2_with (fail)
          exact ⟨⟨0 + 1, by omega, by simp, Lib.hid (fun _ => hG.out), by first | rfl | trivial⟩, by simp [intOf]; omega⟩
        ·
          have t1 : ¬ (97 : Int) ≤ (d.toNat : Int) := by omega
          have t2 : (d.toNat : Int) ≤ 122 := by omega
          have t3 : (65 : Int) ≤ (d.toNat : Int) := by omega
          have t4 : ¬ (d.toNat : Int) ≤ 90 := by omega
          have t5 : ((d.toNat : Int) == 95) = false := by rw [beq_eq_false_iff_ne]; omega
          have t6 : ¬ (d.toNat : Int) < 48 := by omega
          have t7 : (57 : Int) < (d.toNat : Int) := by omega
          have hF := Lib.hid (hbad.out (by rw [hA.out, let_f (by omega), dig_f (by omega)]; cases decide (0 < 0) <;> rfl))
          go_wp2_with (fail)
          exact bodyPost_ret (v := .bool false) (by simp [results, Try.results136, go_sem]; try first | rfl | assumption | omega) rfl ⟨by rw [hF.out], rfl⟩
        ·
          have t1 : ¬ (97 : Int) ≤ (d.toNat : Int) := by omega
          have t2 : (d.toNat : Int) ≤ 122 := by omega
          have t3 : (65 : Int) ≤ (d.toNat : Int) := by omega
          have t4 : ¬ (d.toNat : Int) ≤ 90 := by omega
          have t5 : ((d.toNat : Int) == 95) = true := by rw [beq_iff_eq]; omega
          have t6 : ¬ (d.toNat : Int) < 48 := by omega
          have t7 : (57 : Int) < (d.toNat : Int) := by omega
          have hG := Lib.hid (hgood.out (by rw [hA.out, let_t (by omega)]; rfl))
          go_wp2_with (fail)
          exact ⟨⟨0 + 1, by omega, by simp, Lib.hid (fun _ => hG.out), by first | rfl | trivial⟩, by simp [intOf]; omega⟩
        ·
          have t1 : ¬ (97 : Int) ≤ (d.toNat : Int) := by omega
          have t2 : (d.toNat : Int) ≤ 122 := by omega
          have t3 : (65 : Int) ≤ (d.toNat : Int) := by omega
          have t4 : ¬ (d.toNat : Int) ≤ 90 := by omega
          have t5 : ((d.toNat : Int) == 95) = false := by rw [beq_eq_false_iff_ne]; omega
          have t6 : ¬ (d.toNat : Int) < 48 := by omega
          have t7 : (57 : Int) < (d.toNat : Int) := by omega
          have hF := Lib.hid (hbad.out (by rw [hA.out, let_f (by omega), dig_f (by omega)]; cases decide (0 < 0) <;> rfl))
          go_wp2_with (fail)
          exact bodyPost_ret (v := .bool false) (by simp [results, Try.results136, go_sem]; try first | rfl | assumption | omega) rfl ⟨by rw [hF.out], rfl⟩
        ·
          have t1 : (97 : Int) ≤ (d.toNat : Int) := by omega
          have t2 : (d.toNat : Int) ≤ 122 := by omega
          have t3 : (65 : Int) ≤ (d.toNat : Int) := by omega
          have t4 : ¬ (d.toNat : Int) ≤ 90 := by omega
          have t5 : ((d.toNat : Int) == 95) = false := by rw [beq_eq_false_iff_ne]; omega
          have t6 : ¬ (d.toNat : Int) < 48 := by omega
          have t7 : (57 : Int) < (d.toNat : Int) := by omega
          have hG := Lib.hid (hgood.out (by rw [hA.out, let_t (by omega)]; rfl))
          go_wp2_with (fail)
          exact ⟨⟨0 + 1, by omega, by simp, Lib.hid (fun _ => hG.out), by first | rfl | trivial⟩, by simp [intOf]; omega⟩
        ·
          have t1 : (97 : Int) ≤ (d.toNat : Int) := by omega
          have t2 : ¬ (d.toNat : Int) ≤ 122 := by omega
          have t3 : (65 : Int) ≤ (d.toNat : Int) := by omega
          have t4 : ¬ (d.toNat : Int) ≤ 90 := by omega
          have t5 : ((d.toNat : Int) == 95) = false := by rw [beq_eq_false_iff_ne]; omega
          have t6 : ¬ (d.toNat : Int) < 48 := by omega
          have t7 : (57 : Int) < (d.toNat : Int) := by omega
          have hF := Lib.hid (hbad.out (by rw [hA.out, let_f (by omega), dig_f (by omega)]; cases decide (0 < 0) <;> rfl))
          go_wp2_with (fail)
          exact bodyPost_ret (v := .bool false) (by simp [results, Try.results136, go_sem]; try first | rfl | assumption | omega) rfl ⟨by rw [hF.out], rfl⟩
      · have hkp : ((k : Int) == 0) = false := by rw [beq_eq_false_iff_ne]; omega
        rcases byte_part d.toNat with hp | hp | hp | hp | hp | hp | hp | hp | hp
        ·
          have t1 : ¬ (97 : Int) ≤ (d.toNat : Int) := by omega
          have t2 : (d.toNat : Int) ≤ 122 := by omega
          have t3 : ¬ (65 : Int) ≤ (d.toNat : Int) := by omega
          have t4 : (d.toNat : Int) ≤ 90 := by omega
          have t5 : ((d.toNat : Int) == 95) = false := by rw [beq_eq_false_iff_ne]; omega
          have t6 : (d.toNat : Int) < 48 := by omega
          have t7 : ¬ (57 : Int) < (d.toNat : Int) := by omega
          have hF := Lib.hid (hbad.out (by rw [hA.out, let_f (by omega), dig_f (by omega)]; cases decide (0 < k) <;> rfl))
          go_wp2_with (fail)
          exact bodyPost_ret (v := .bool false) (by simp [results, Try.results136, go_sem]; try first | rfl | assumption | omega) rfl ⟨by rw [hF.out], rfl⟩
        ·
          have t1 : ¬ (97 : Int) ≤ (d.toNat : Int) := by omega
          have t2 : (d.toNat : Int) ≤ 122 := by omega
          have t3 : ¬ (65 : Int) ≤ (d.toNat : Int) := by omega
          have t4 : (d.toNat : Int) ≤ 90 := by omega
          have t5 : ((d.toNat : Int) == 95) = false := by rw [beq_eq_false_iff_ne]; omega
          have t6 : ¬ (d.toNat : Int) < 48 := by omega
          have t7 : ¬ (57 : Int) < (d.toNat : Int) := by omega
          have hG := Lib.hid (hgood.out (by rw [hA.out, let_f (by omega), dig_t (by omega)]; rw [decide_eq_true (by omega)]; rfl))
          go_wp2_with (fail)
          exact ⟨⟨k + 1, by omega, by simp, Lib.hid (fun _ => hG.out), by first | rfl | trivial⟩, by simp [intOf]; omega⟩
        ·
          have t1 : ¬ (97 : Int) ≤ (d.toNat : Int) := by omega
          have t2 : (d.toNat : Int) ≤ 122 := by omega
          have t3 : ¬ (65 : Int) ≤ (d.toNat : Int) := by omega
          have t4 : (d.toNat : Int) ≤ 90 := by omega
          have t5 : ((d.toNat : Int) == 95) = false := by rw [beq_eq_false_iff_ne]; omega
          have t6 : ¬ (d.toNat : Int) < 48 := by omega
          have t7 : (57 : Int) < (d.toNat : Int) := by omega
          have hF := Lib.hid (hbad.out (by rw [hA.out, let_f (by omega), dig_f (by omega)]; cases decide (0 < k) <;> rfl))
          go_wp2_with (fail)
          exact bodyPost_ret (v := .bool false) (by simp [results, Try.results136, go_sem]; try first | rfl | assumption | omega) rfl ⟨by rw [hF.out], rfl⟩
        ·
          have t1 : ¬ (97 : Int) ≤ (d.toNat : Int) := by omega
          have t2 : (d.toNat : Int) ≤ 122 := by omega
          have t3 : (65 : Int) ≤ (d.toNat : Int) := by omega
          have t4 : (d.toNat : Int) ≤ 90 := by omega
          have t5 : ((d.toNat : Int) == 95) = false := by rw [beq_eq_false_iff_ne]; omega
          have t6 : ¬ (d.toNat : Int) < 48 := by omega
          have t7 : (57 : Int) < (d.toNat : Int) := by omega
          have hG := Lib.hid (hgood.out (by rw [hA.out, let_t (by omega)]; rfl))
          go_wp2_with (fail)
          exact ⟨⟨k + 1, by omega, by simp, Lib.hid (fun _ => hG.out), by first | rfl | trivial⟩, by simp [intOf]; omega⟩
        ·
          have t1 : ¬ (97 : Int) ≤ (d.toNat : Int) := by omega
          have t2 : (d.toNat : Int) ≤ 122 := by omega
          have t3 : (65 : Int) ≤ (d.toNat : Int) := by omega
          have t4 : ¬ (d.toNat : Int) ≤ 90 := by omega
          have t5 : ((d.toNat : Int) == 95) = false := by rw [beq_eq_false_iff_ne]; omega
          have t6 : ¬ (d.toNat : Int) < 48 := by omega
          have t7 : (57 : Int) < (d.toNat : Int) := by omega
          have hF := Lib.hid (hbad.out (by rw [hA.out, let_f (by omega), dig_f (by omega)]; cases decide (0 < k) <;> rfl))
          go_wp2_with (fail)
          exact bodyPost_ret (v := .bool false) (by simp [results, Try.results136, go_sem]; try first | rfl | assumption | omega) rfl ⟨by rw [hF.out], rfl⟩
        ·
          have t1 : ¬ (97 : Int) ≤ (d.toNat : Int) := by omega
          have t2 : (d.toNat : Int) ≤ 122 := by omega
          have t3 : (65 : Int) ≤ (d.toNat : Int) := by omega
          have t4 : ¬ (d.toNat : Int) ≤ 90 := by omega
          have t5 : ((d.toNat : Int) == 95) = true := by rw [beq_iff_eq]; omega
          have t6 : ¬ (d.toNat : Int) < 48 := by omega
          have t7 : (57 : Int) < (d.toNat : Int) := by omega
          have hG := Lib.hid (hgood.out (by rw [hA.out, let_t (by omega)]; rfl))
          go_wp2_with (fail)
          exact ⟨⟨k + 1, by omega, by simp, Lib.hid (fun _ => hG.out), by first | rfl | trivial⟩, by simp [intOf]; omega⟩
        ·
          have t1 : ¬ (97 : Int) ≤ (d.toNat : Int) := by omega
          have t2 : (d.toNat : Int) ≤ 122 := by omega
          have t3 : (65 : Int) ≤ (d.toNat : Int) := by omega
          have t4 : ¬ (d.toNat : Int) ≤ 90 := by omega
          have t5 : ((d.toNat : Int) == 95) = false := by rw [beq_eq_false_iff_ne]; omega
          have t6 : ¬ (d.toNat : Int) < 48 := by omega
          have t7 : (57 : Int) < (d.toNat : Int) := by omega
          have hF := Lib.hid (hbad.out (by rw [hA.out, let_f (by omega), dig_f (by omega)]; cases decide (0 < k) <;> rfl))
          go_wp2_with (fail)
          exact bodyPost_ret (v := .bool false) (by simp [results, Try.results136, go_sem]; try first | rfl | assumption | omega) rfl ⟨by rw [hF.out], rfl⟩
        ·
          have t1 : (97 : Int) ≤ (d.toNat : Int) := by omega
          have t2 : (d.toNat : Int) ≤ 122 := by omega
          have t3 : (65 : Int) ≤ (d.toNat : Int) := by omega
          have t4 : ¬ (d.toNat : Int) ≤ 90 := by omega
          have t5 : ((d.toNat : Int) == 95) = false := by rw [beq_eq_false_iff_ne]; omega
          have t6 : ¬ (d.toNat : Int) < 48 := by omega
          have t7 : (57 : Int) < (d.toNat : Int) := by omega
          have hG := Lib.hid (hgood.out (by rw [hA.out, let_t (by omega)]; rfl))
          go_wp2_with (fail)
          exact ⟨⟨k + 1, by omega, by simp, Lib.hid (fun _ => hG.out), by first | rfl | trivial⟩, by simp [intOf]; omega⟩
        ·
          have t1 : (97 : Int) ≤ (d.toNat : Int) := by omega
          have t2 : ¬ (d.toNat : Int) ≤ 122 := by omega
          have t3 : (65 : Int) ≤ (d.toNat : Int) := by omega
          have t4 : ¬ (d.toNat : Int) ≤ 90 := by omega
          have t5 : ((d.toNat : Int) == 95) = false := by rw [beq_eq_false_iff_ne]; omega
          have t6 : ¬ (d.toNat : Int) < 48 := by omega
          have t7 : (57 : Int) < (d.toNat : Int) := by omega
          have hF := Lib.hid (hbad.out (by rw [hA.out, let_f (by omega), dig_f (by omega)]; cases decide (0 < k) <;> rfl))
          go_wp2_with (fail)
          exact bodyPost_ret (v := .bool false) (by simp [results, Try.results136, go_sem]; try first | rfl | assumption | omega) rfl ⟨by rw [hF.out], rfl⟩
    · obtain rfl : k = s.size := by omega
      have hkI : ¬ (s.size : Int) < (s.size : Int) := by omega
      have hT : q = true := by rw [HK.out (by omega), List.drop_eq_nil_of_le (by rw [dlen]; exact Nat.le_refl _)]; rfl
      subst hT
      go_wp2_with (fail)
      exact bodyPost_ret (v := .bool true) (by simp [results, Try.results136, go_sem]; try first | rfl | assumption | omega) rfl ⟨rfl, rfl⟩
end Go.Proofs.Ythogiakfbgehnaa

namespace Go.Proofs.Ythogiakfbgehnaa
open Go.RowKit Go.Shelf

attribute [local go_sem] Oper.semAt_some

set_option maxRecDepth 100000 in
set_option maxHeartbeats 4000000 in
theorem refMay_any (rs : List RlD) (a : Option Addr) (cap : Nat) (w : World) (hl : Rls w a cap rs) :
    Calls Try.prog 158 #[.agg #[.slice a rs.length cap]] w fun r w' => r = .returned (.bool (mayG rs)) ∧ Below w.heap.size w w' := by
  have hlm : rs.length ≤ cap ∧ cap ≤ 9223372036854775807 := ⟨hl.le, hl.max⟩
  have hA0 := Blk.new w 124 #[.slice a rs.length cap]
  have hb0 : Below w.heap.size w (w.alloc (.cells #[.slice a rs.length cap] 124)) := (Below.refl _ w).alloc (Nat.le_refl _) _
  have hs0 : w.heap.size < (w.alloc (.cells #[.slice a rs.length cap] 124)).heap.size := by simp [go_sem]
  unfold mayG
  obtain ⟨L, HL⟩ : ∃ L, Hid (rs.length = L) := ⟨_, Lib.hid rfl⟩
  rw [HL.out] at hlm hA0 hb0 hs0 ⊢
  obtain ⟨R, hR⟩ : ∃ R, Hid (rs.all mayR = R) := ⟨_, Lib.hid rfl⟩
  rw [hR.out]
  obtain ⟨G, hG⟩ : ∃ G, Hid ((R && decide (0 < L)) = G) := ⟨_, Lib.hid rfl⟩
  rw [hG.out]
  have x0 := hA0.cell 0
  have xl := hA0.lt
  simp only [List.getElem?_cons_zero] at x0
  go_enter Try.func158, Try.ntmps158
  go_wp2_with (fail)
  generalize hW : World.alloc w _ = W at x0 xl hA0 hb0 hs0 ⊢
  have HW := Lib.hid hW
  clear hW hA0
  go_loopw [12] (fun iv wr => ∃ k : Nat, k ≤ L ∧ iv = .int .i64 (k : Int) ∧ Hid (R = (rs.drop k).all mayR) ∧ Below W.heap.size W wr) (fun iv _ => L - (intOf iv).toNat)
  case atStart => exact ⟨0, Nat.zero_le _, rfl, Lib.hid hR.out.symm, Below.refl _ _⟩
  case round =>
    obtain ⟨k, hk, rfl, HR, hbr⟩ := hrel
    have hbw := hb0.trans (hbr.mono hb0.size)
    by_cases hlt : k < L
    · have hkI : (k : Int) < (L : Int) := by omega
      have hkI0 : (0 : Int) ≤ (k : Int) := by omega
      have hkl : k < rs.length := by rw [HL.out]; exact hlt
      obtain ⟨b, off, rfl⟩ := hl.at_ k hkl
      obtain ⟨c0, c1⟩ := (hl.grown hbw).cell b off rfl k hkl
      have hdr : Hid (rs.drop k = rs[k] :: rs.drop (k + 1)) := Lib.hid (List.drop_eq_getElem_cons hkl)
      have hm : rs[k] ∈ rs := List.getElem_mem hkl
      obtain ⟨e, he⟩ : ∃ v, Hid (rs[k] = v) := ⟨_, Lib.hid rfl⟩
      rw [he.out] at c0 c1 hm
      have hbl := World.block_lt_of_cell? wr _ c0
      have hal := Lib.hid (hl.alts e hm)
      have hB0 := Blk.new wr 177 #[.string e.n, .slice e.a e.ds.length e.c]
      have hb1 : Below wr.heap.size wr (wr.alloc (.cells #[.string e.n, .slice e.a e.ds.length e.c] 177)) := (Below.refl _ wr).alloc (Nat.le_refl _) _
      have hem : e.ds.length ≤ e.c ∧ e.c ≤ 9223372036854775807 := ⟨by have := hal.out.row.le; rw [List.length_map] at this; exact this, hal.out.row.max⟩
      obtain ⟨M, HM⟩ : ∃ M, Hid (e.ds.length = M) := ⟨_, Lib.hid rfl⟩
      rw [HM.out] at hB0 hb1 c1 hem
      have y0 := hB0.cell 0
      have y1 := hB0.cell 1
      have yl := hB0.lt
      simp only [List.getElem?_cons_zero, List.getElem?_cons_succ] at y0 y1
      have HRs : Hid (R = (mayR e && (rs.drop (k + 1)).all mayR)) := Lib.hid (by rw [HR.out, hdr.out, List.all_cons, he.out])
      have HmR : Hid (mayR e = (nameB e.n && decide (M ≠ 0) && e.ds.all (fun d => d.l.all nameB))) := Lib.hid (by unfold mayR; rw [HM.out])
      clear hm hB0
      have Hc := Lib.hid (refIsName_any e.n (wr.alloc (.cells #[.string e.n, .slice e.a M e.c] 177)))
      obtain ⟨S, hS⟩ : ∃ S, Hid (nameB e.n = S) := ⟨_, Lib.hid rfl⟩
      rw [hS.out] at Hc HmR
      cases S
      · have hF : Hid (R = false) := Lib.hid (by rw [HRs.out, HmR.out]; rfl)
        go_wp2_with (fail)
        refine Hc.out.mono ?_
        rintro r w3 ⟨rfl, hw3⟩
        subst w3
        go_wp2_with (fail)
        exact bodyPost_ret (v := .bool false) (by simp [results, Try.results158, go_sem]; try first | rfl | assumption | omega) rfl ⟨by rw [← hG.out, hF.out]; rfl, hbw.trans (hb1.mono hbw.size)⟩
      · by_cases hM : M = 0
        · have hF : Hid (R = false) := Lib.hid (by rw [HRs.out, HmR.out, hM]; rfl)
          have hMI : (M : Int) = 0 := by omega
          clear hM
          go_wp2_with (fail)
          refine Hc.out.mono ?_
          rintro r w3 ⟨rfl, hw3⟩
          subst w3
          go_wp2_with (fail)
          exact bodyPost_ret (v := .bool false) (by simp [results, Try.results158, go_sem]; try first | rfl | assumption | omega) rfl ⟨by rw [← hG.out, hF.out]; rfl, hbw.trans (hb1.mono hbw.size)⟩
        · have hMI : ¬ (M : Int) = 0 := by omega
          obtain ⟨Q, hQ⟩ : ∃ Q, Hid (e.ds.all (fun d => d.l.all nameB) = Q) := ⟨_, Lib.hid rfl⟩
          have HRq : Hid (R = (Q && (rs.drop (k + 1)).all mayR)) := Lib.hid (by rw [HRs.out, HmR.out, hQ.out, decide_eq_true hM]; rfl)
          go_wp2_with (fail)
          refine Hc.out.mono ?_
          rintro r w3 ⟨rfl, hw3⟩
          subst w3
          go_wp2_with (fail)
          generalize hV : World.alloc wr _ = V at y0 y1 yl hb1 ⊢
          clear hV Hc
          have hMB : ((M : Int) == 0) = false := by simpa using hMI
          simp only [hMB]
          clear hMB
          go_loopw [29] (fun iv wr => ∃ j : Nat, j ≤ M ∧ iv = .int .i64 (j : Int) ∧ Hid (Q = (e.ds.drop j).all (fun d => d.l.all nameB)) ∧ wr = V) (fun iv _ => M - (intOf iv).toNat)
          case atStart => exact ⟨0, Nat.zero_le _, rfl, Lib.hid hQ.out.symm, rfl⟩
          case round =>
            obtain ⟨j, hj, rfl, HQ, hwx⟩ := hrel
            have HWX := Lib.hid hwx
            clear hwx
            have hbV : Below w.heap.size w wr := by rw [HWX.out]; exact hbw.trans (hb1.mono hbw.size)
            by_cases hjt : j < M
            · have hjI : (j : Int) < (M : Int) := by omega
              have hjI0 : (0 : Int) ≤ (j : Int) := by omega
              have hjl : j < e.ds.length := by rw [HM.out]; exact hjt
              obtain ⟨eb, eo, hea⟩ := hal.out.row.at_ j (by rw [List.length_map]; exact hjl)
              have c2 := (hal.out.grown hbV).row.cell eb eo hea j (by rw [List.length_map]; exact hjl)
              rw [List.getElem_map] at c2
              have hd2 : Hid (e.ds.drop j = e.ds[j] :: e.ds.drop (j + 1)) := Lib.hid (List.drop_eq_getElem_cons hjl)
              have hm2 : e.ds[j] ∈ e.ds := List.getElem_mem hjl
              obtain ⟨d, hd⟩ : ∃ v, Hid (e.ds[j] = v) := ⟨_, Lib.hid rfl⟩
              rw [hd.out] at c2 hm2
              have hbl2 := World.block_lt_of_cell? _ _ c2
              have hnm := Lib.hid (hal.out.nms d hm2)
              have hnl : d.l.length ≤ d.c ∧ d.c ≤ 9223372036854775807 := ⟨by have := hnm.out.le; rw [List.length_map] at this; exact this, hnm.out.max⟩
              obtain ⟨U, hU⟩ : ∃ U, Hid (d.l.all nameB = U) := ⟨_, Lib.hid rfl⟩
              have HQU : Hid (Q = (U && (e.ds.drop (j + 1)).all (fun d => d.l.all nameB))) := Lib.hid (by rw [HQ.out, hd2.out, List.all_cons, hd.out, hU.out])
              rw [show d.v = .slice d.a d.l.length d.c from rfl] at c2
              obtain ⟨N, HN⟩ : ∃ N, Hid (d.l.length = N) := ⟨_, Lib.hid rfl⟩
              rw [HN.out] at hnl c2
              clear hm2
              rw [hea]
              go_wp2_with (fail)
              have HW2 := Lib.hid hbV
              obtain ⟨Z, hZ⟩ : ∃ Z : World, Hid (wr = Z) := ⟨_, Lib.hid rfl⟩
              have HZV : Hid (Z = V) := Lib.hid (by rw [← hZ.out]; exact HWX.out)
              rw [hZ.out] at HW2 c2 hbl2 ⊢
              clear HWX hbV
              go_loopw [35] (fun iv wr => ∃ i : Nat, i ≤ N ∧ iv = .int .i64 (i : Int) ∧ Hid (U = (d.l.drop i).all nameB) ∧ wr = Z) (fun iv _ => N - (intOf iv).toNat)
              case atStart => exact ⟨0, Nat.zero_le _, rfl, Lib.hid hU.out.symm, rfl⟩
              case round =>
                obtain ⟨i, hi, rfl, HU, hwz⟩ := hrel
                have HWZ := Lib.hid hwz
                clear hwz
                have hbZ : Below w.heap.size w wr := by rw [HWZ.out]; exact HW2.out
                by_cases hit : i < N
                · have hiI : (i : Int) < (N : Int) := by omega
                  have hiI0 : (0 : Int) ≤ (i : Int) := by omega
                  have hil : i < d.l.length := by rw [HN.out]; exact hit
                  obtain ⟨nb, no, hna⟩ := hnm.out.at_ i (by rw [List.length_map]; exact hil)
                  have c3 := (hnm.out.grown hbZ).cell nb no hna i (by rw [List.length_map]; exact hil)
                  rw [List.getElem_map] at c3
                  have hd3 : Hid (d.l.drop i = d.l[i] :: d.l.drop (i + 1)) := Lib.hid (List.drop_eq_getElem_cons hil)
                  obtain ⟨s, hs⟩ : ∃ v, Hid (d.l[i] = v) := ⟨_, Lib.hid rfl⟩
                  rw [hs.out] at c3
                  have hbl3 := World.block_lt_of_cell? _ _ c3
                  have hc3 := refIsName_any s wr
                  obtain ⟨S3, hS3⟩ : ∃ S, Hid (nameB s = S) := ⟨_, Lib.hid rfl⟩
                  rw [hS3.out] at hc3
                  have Hc3 := Lib.hid hc3
                  clear hc3
                  rw [hna]
                  go_wp2_with (fail)
                  refine Hc3.out.mono ?_
                  rintro r w3 ⟨rfl, hw3⟩
                  obtain rfl : wr = w3 := hw3.symm
                  cases S3
                  · have hF : Hid (R = false) := Lib.hid (by rw [HRq.out, HQU.out, HU.out, hd3.out, List.all_cons, hs.out, hS3.out]; rfl)
                    go_wp2_with (fail)
                    exact bodyPost_ret (v := .bool false) (by simp [results, Try.results158, go_sem]; try first | rfl | assumption | omega) rfl ⟨by rw [← hG.out, hF.out]; rfl, hbZ⟩
                  · go_wp2_with (fail)
                    exact ⟨⟨i + 1, by omega, by simp, Lib.hid (by rw [HU.out, hd3.out, List.all_cons, hs.out, hS3.out, Bool.true_and]), HWZ.out⟩, by simp [intOf]; omega⟩
                · obtain rfl : i = N := by omega
                  have hiI : ¬ (i : Int) < (i : Int) := by omega
                  have hT3 : Hid (Q = (e.ds.drop (j + 1)).all (fun d => d.l.all nameB)) := Lib.hid (by rw [HQU.out, HU.out, List.drop_eq_nil_of_le (by rw [HN.out]; exact Nat.le_refl _)]; rfl)
                  go_wp2_with (fail)
                  exact ⟨⟨j + 1, by omega, by simp, hT3, by rw [HWZ.out]; exact HZV.out⟩, by simp [intOf]; omega⟩
            · obtain rfl : j = M := by omega
              have hjI : ¬ (j : Int) < (j : Int) := by omega
              have hT : Hid (R = (rs.drop (k + 1)).all mayR) := Lib.hid (by rw [HRq.out, HQ.out, List.drop_eq_nil_of_le (by rw [HM.out]; exact Nat.le_refl _)]; rfl)
              go_wp2_with (fail)
              exact ⟨⟨k + 1, by omega, by simp, hT, by rw [HWX.out]; exact hbr.trans (hb1.mono hbr.size)⟩, by simp [intOf]; omega⟩
    · obtain rfl : k = L := by omega
      have hkI : ¬ (k : Int) < (k : Int) := by omega
      have hT : Hid (R = true) := Lib.hid (by rw [HR.out, List.drop_eq_nil_of_le (by rw [HL.out]; exact Nat.le_refl _)]; rfl)
      have x1 := cell_up hbr x0
      by_cases h0 : 0 < k
      · have h0I : (0 : Int) < (k : Int) := by omega
        have hF : Hid (G = true) := Lib.hid (by rw [← hG.out, hT.out, decide_eq_true h0]; rfl)
        go_wp2_with (fail)
        exact bodyPost_ret (v := .bool true) (by simp [results, Try.results158, go_sem]; try first | rfl | assumption | omega) rfl ⟨by rw [hF.out], hbw⟩
      · have h0I : ¬ (0 : Int) < (k : Int) := by omega
        have hF : Hid (G = false) := Lib.hid (by rw [← hG.out, decide_eq_false h0]; exact Bool.and_false _)
        go_wp2_with (fail)
        exact bodyPost_ret (v := .bool false) (by simp [results, Try.results158, go_sem]; try first | rfl | assumption | omega) rfl ⟨by rw [hF.out], hbw⟩

end Go.Proofs.Ythogiakfbgehnaa

namespace Go.Proofs.Ythogiakfbgehnaa
open Go.RowKit Go.Shelf

attribute [local go_sem] Oper.semAt_some

set_option maxRecDepth 100000 in
set_option maxHeartbeats 4000000 in
theorem refLong_any (rs : List RlD) (a : Option Addr) (cap : Nat) (w : World) (hl : Rls w a cap rs) :
    Calls Try.prog 159 #[.agg #[.slice a rs.length cap]] w fun r w' => r = .returned (.bool (longG rs)) ∧ Below w.heap.size w w' := by
  have hlm : rs.length ≤ cap ∧ cap ≤ 9223372036854775807 := ⟨hl.le, hl.max⟩
  have hA0 := Blk.new w 124 #[.slice a rs.length cap]
  have hb0 : Below w.heap.size w (w.alloc (.cells #[.slice a rs.length cap] 124)) := (Below.refl _ w).alloc (Nat.le_refl _) _
  unfold longG
  obtain ⟨L, HL⟩ : ∃ L, Hid (rs.length = L) := ⟨_, Lib.hid rfl⟩
  rw [HL.out] at hlm hA0 hb0 ⊢
  obtain ⟨R, hR⟩ : ∃ R, Hid (rs.any longR = R) := ⟨_, Lib.hid rfl⟩
  rw [hR.out]
  obtain ⟨G, hG⟩ : ∃ G, Hid ((decide (60 < L) || R) = G) := ⟨_, Lib.hid rfl⟩
  rw [hG.out]
  have HGT : Hid (R = true → G = true) := Lib.hid (fun h => by rw [← hG.out, h]; exact Bool.or_true _)
  have x0 := hA0.cell 0
  have xl := hA0.lt
  simp only [List.getElem?_cons_zero] at x0
  go_enter Try.func159, Try.ntmps159
  go_wp2_with (fail)
  generalize hW : World.alloc w _ = W at x0 xl hA0 hb0 ⊢
  clear hW hA0
  go_loopw [10] (fun iv wr => ∃ k : Nat, k ≤ L ∧ iv = .int .i64 (k : Int) ∧ Hid (R = (rs.drop k).any longR) ∧ Below W.heap.size W wr) (fun iv _ => L - (intOf iv).toNat)
  case atStart => exact ⟨0, Nat.zero_le _, rfl, Lib.hid hR.out.symm, Below.refl _ _⟩
  case round =>
    obtain ⟨k, hk, rfl, HR, hbr⟩ := hrel
    have hbw := hb0.trans (hbr.mono hb0.size)
    by_cases hlt : k < L
    · have hkI : (k : Int) < (L : Int) := by omega
      have hkI0 : (0 : Int) ≤ (k : Int) := by omega
      have hkl : k < rs.length := by rw [HL.out]; exact hlt
      obtain ⟨b, off, rfl⟩ := hl.at_ k hkl
      obtain ⟨c0, c1⟩ := (hl.grown hbw).cell b off rfl k hkl
      have hdr : Hid (rs.drop k = rs[k] :: rs.drop (k + 1)) := Lib.hid (List.drop_eq_getElem_cons hkl)
      have hm : rs[k] ∈ rs := List.getElem_mem hkl
      obtain ⟨e, he⟩ : ∃ v, Hid (rs[k] = v) := ⟨_, Lib.hid rfl⟩
      rw [he.out] at c0 c1 hm
      have hbl := World.block_lt_of_cell? wr _ c0
      have hal := Lib.hid (hl.alts e hm)
      have hB0 := Blk.new wr 177 #[.string e.n, .slice e.a e.ds.length e.c]
      have hb1 : Below wr.heap.size wr (wr.alloc (.cells #[.string e.n, .slice e.a e.ds.length e.c] 177)) := (Below.refl _ wr).alloc (Nat.le_refl _) _
      have hem : e.ds.length ≤ e.c ∧ e.c ≤ 9223372036854775807 := ⟨by have := hal.out.row.le; rw [List.length_map] at this; exact this, hal.out.row.max⟩
      obtain ⟨M, HM⟩ : ∃ M, Hid (e.ds.length = M) := ⟨_, Lib.hid rfl⟩
      rw [HM.out] at hB0 hb1 c1 hem
      have y0 := hB0.cell 0
      have y1 := hB0.cell 1
      have yl := hB0.lt
      simp only [List.getElem?_cons_zero, List.getElem?_cons_succ] at y0 y1
      have HRs : Hid (R = (longR e || (rs.drop (k + 1)).any longR)) := Lib.hid (by rw [HR.out, hdr.out, List.any_cons, he.out])
      have HmR : Hid (longR e = (decide (30 < M) || e.ds.any longA)) := Lib.hid (by unfold longR; rw [HM.out])
      clear hm hB0
      by_cases hM : 30 < M
      · have hF : Hid (G = true) := Lib.hid (HGT.out (by rw [HRs.out, HmR.out, decide_eq_true hM]; rfl))
        have hMI : (30 : Int) < (M : Int) := by omega
        clear hM
        go_wp2_with (fail)
        exact bodyPost_ret (v := .bool true) (by simp [results, Try.results159, go_sem]; try first | rfl | assumption | omega) rfl ⟨by rw [hF.out], hbw.trans (hb1.mono hbw.size)⟩
      · have hMI : ¬ (30 : Int) < (M : Int) := by omega
        obtain ⟨Q, hQ⟩ : ∃ Q, Hid (e.ds.any longA = Q) := ⟨_, Lib.hid rfl⟩
        have HRq : Hid (R = (Q || (rs.drop (k + 1)).any longR)) := Lib.hid (by rw [HRs.out, HmR.out, hQ.out, decide_eq_false hM]; rfl)
        go_wp2_with (fail)
        generalize hV : World.alloc wr _ = V at y0 y1 yl hb1 ⊢
        clear hV
        go_loopw [21] (fun iv wr => ∃ j : Nat, j ≤ M ∧ iv = .int .i64 (j : Int) ∧ Hid (Q = (e.ds.drop j).any longA) ∧ wr = V) (fun iv _ => M - (intOf iv).toNat)
        case atStart => exact ⟨0, Nat.zero_le _, rfl, Lib.hid hQ.out.symm, rfl⟩
        case round =>
          obtain ⟨j, hj, rfl, HQ, hwx⟩ := hrel
          have HWX := Lib.hid hwx
          clear hwx
          have hbV : Below w.heap.size w wr := by rw [HWX.out]; exact hbw.trans (hb1.mono hbw.size)
          by_cases hjt : j < M
          · have hjI : (j : Int) < (M : Int) := by omega
            have hjI0 : (0 : Int) ≤ (j : Int) := by omega
            have hjl : j < e.ds.length := by rw [HM.out]; exact hjt
            obtain ⟨eb, eo, hea⟩ := hal.out.row.at_ j (by rw [List.length_map]; exact hjl)
            have c2 := (hal.out.grown hbV).row.cell eb eo hea j (by rw [List.length_map]; exact hjl)
            rw [List.getElem_map] at c2
            have hd2 : Hid (e.ds.drop j = e.ds[j] :: e.ds.drop (j + 1)) := Lib.hid (List.drop_eq_getElem_cons hjl)
            obtain ⟨d, hd⟩ : ∃ v, Hid (e.ds[j] = v) := ⟨_, Lib.hid rfl⟩
            rw [hd.out] at c2
            have hbl2 := World.block_lt_of_cell? _ _ c2
            rw [show d.v = .slice d.a d.l.length d.c from rfl] at c2
            have HlA : Hid (longA d = decide (30 < d.l.length)) := Lib.hid rfl
            obtain ⟨N, HN⟩ : ∃ N, Hid (d.l.length = N) := ⟨_, Lib.hid rfl⟩
            rw [HN.out] at c2 HlA
            rw [hea]
            by_cases hN : 30 < N
            · have hNI : (30 : Int) < (N : Int) := by omega
              have hF : Hid (G = true) := Lib.hid (HGT.out (by rw [HRq.out, HQ.out, hd2.out, List.any_cons, hd.out, HlA.out, decide_eq_true hN]; rfl))
              clear hN
              go_wp2_with (fail)
              exact bodyPost_ret (v := .bool true) (by simp [results, Try.results159, go_sem]; try first | rfl | assumption | omega) rfl ⟨by rw [hF.out], hbV⟩
            · have hNI : ¬ (30 : Int) < (N : Int) := by omega
              have hS : Hid (longA d = false) := Lib.hid (by rw [HlA.out]; exact decide_eq_false hN)
              clear hN
              go_wp2_with (fail)
              exact ⟨⟨j + 1, by omega, by simp, Lib.hid (by rw [HQ.out, hd2.out, List.any_cons, hd.out, hS.out, Bool.false_or]), HWX.out⟩, by simp [intOf]; omega⟩
          · obtain rfl : j = M := by omega
            have hjI : ¬ (j : Int) < (j : Int) := by omega
            have hT : Hid (R = (rs.drop (k + 1)).any longR) := Lib.hid (by rw [HRq.out, HQ.out, List.drop_eq_nil_of_le (by rw [HM.out]; exact Nat.le_refl _)]; rfl)
            go_wp2_with (fail)
            exact ⟨⟨k + 1, by omega, by simp, hT, by rw [HWX.out]; exact hbr.trans (hb1.mono hbr.size)⟩, by simp [intOf]; omega⟩
    · obtain rfl : k = L := by omega
      have hkI : ¬ (k : Int) < (k : Int) := by omega
      have hT : Hid (R = false) := Lib.hid (by rw [HR.out, List.drop_eq_nil_of_le (by rw [HL.out]; exact Nat.le_refl _)]; rfl)
      have x1 := cell_up hbr x0
      by_cases h0 : 60 < k
      · have h0I : (60 : Int) < (k : Int) := by omega
        have hF : Hid (G = true) := Lib.hid (by rw [← hG.out, decide_eq_true h0]; rfl)
        go_wp2_with (fail)
        exact bodyPost_ret (v := .bool true) (by simp [results, Try.results159, go_sem]; try first | rfl | assumption | omega) rfl ⟨by rw [hF.out], hbw⟩
      · have h0I : ¬ (60 : Int) < (k : Int) := by omega
        have hF : Hid (G = false) := Lib.hid (by rw [← hG.out, hT.out, decide_eq_false h0]; rfl)
        go_wp2_with (fail)
        exact bodyPost_ret (v := .bool false) (by simp [results, Try.results159, go_sem]; try first | rfl | assumption | omega) rfl ⟨by rw [hF.out], hbw⟩

set_option maxRecDepth 100000 in
set_option maxHeartbeats 1000000 in
theorem refGCheck_any (rs : List RlD) (a : Option Addr) (cap : Nat) (w : World) (hl : Rls w a cap rs) :
    Calls Try.prog 135 #[.agg #[.slice a rs.length cap]] w fun r w' => r = .returned (.int .i64 (chkG rs)) ∧ Below w.heap.size w w' := by
  have hA0 := Blk.new w 124 #[.slice a rs.length cap]
  have hb0 : Below w.heap.size w (w.alloc (.cells #[.slice a rs.length cap] 124)) := (Below.refl _ w).alloc (Nat.le_refl _) _
  have Hc1 := Lib.hid (refMay_any rs a cap _ (hl.grown hb0))
  have Hc2 := Lib.hid (fun (w2 : World) (h : Below w.heap.size w w2) => refLong_any rs a cap w2 (hl.grown h))
  unfold chkG
  obtain ⟨M, hM⟩ : ∃ M, Hid (mayG rs = M) := ⟨_, Lib.hid rfl⟩
  obtain ⟨G, hG⟩ : ∃ G, Hid (longG rs = G) := ⟨_, Lib.hid rfl⟩
  rw [hM.out] at Hc1 ⊢
  rw [hG.out] at Hc2 ⊢
  obtain ⟨L, HL⟩ : ∃ L, Hid (rs.length = L) := ⟨_, Lib.hid rfl⟩
  rw [HL.out] at hA0 hb0 Hc1 Hc2 ⊢
  have x0 := hA0.cell 0
  have xl := hA0.lt
  simp only [List.getElem?_cons_zero] at x0
  cases M
  · go_enter Try.func135, Try.ntmps135
    go_wp2_with (fail)
    refine Hc1.out.mono ?_
    rintro r w1 ⟨rfl, hb1⟩
    go_wp2_with (fail)
    exact bodyPost_ret (v := .int .i64 1) (by simp [results, Try.results135, go_sem]; try first | rfl | assumption | omega) rfl ⟨rfl, hb0.trans (hb1.mono hb0.size)⟩
  · have HG : Hid ((if G = true then (2 : Int) else 0) = if G then 2 else 0) := Lib.hid rfl
    go_enter Try.func135, Try.ntmps135
    go_wp2_with (fail)
    refine Hc1.out.mono ?_
    rintro r w1 ⟨rfl, hb1⟩
    have x1 := cell_up hb1 x0
    have hb2 := hb0.trans (hb1.mono hb0.size)
    have Hd := Lib.hid (Hc2.out w1 hb2)
    go_wp2_with (fail)
    refine Hd.out.mono ?_
    rintro r w3 ⟨rfl, hb3⟩
    have hb4 := hb2.trans (hb3.mono hb2.size)
    cases G
    · go_wp2_with (fail)
      exact bodyPost_ret (v := .int .i64 0) (by simp [results, Try.results135, go_sem]; try first | rfl | assumption | omega) rfl ⟨rfl, hb4⟩
    · go_wp2_with (fail)
      exact bodyPost_ret (v := .int .i64 2) (by simp [results, Try.results135, go_sem]; try first | rfl | assumption | omega) rfl ⟨rfl, hb4⟩
end Go.Proofs.Ythogiakfbgehnaa

namespace Go.Proofs.Ythogiakfbgehnaa
open Go.RowKit

attribute [local go_sem] Oper.semAt_some

/-- Whether a name is among some. -/
def mem (s : ByteArray) (l : List ByteArray) : Bool := l.any (fun t => decide (t = s))
theorem mem_iff {s : ByteArray} {l : List ByteArray} : mem s l = true ↔ s ∈ l := by
  simp [mem]
/-- Where a name stands first among some; -1: nowhere. -/
def plcP (s : ByteArray) : Nat → List ByteArray → Int
  | _, [] => -1
  | k, t :: r => if t = s then (k : Int) else plcP s (k + 1) r

set_option maxRecDepth 100000 in
set_option maxHeartbeats 1000000 in
theorem refHas_any (l : List ByteArray) (a : Option Addr) (cap : Nat) (s : ByteArray) (w : World) (hl : Nms w a cap l) :
    Calls Try.prog 137 #[.slice a l.length cap, .string s] w fun r w' => r = .returned (.bool (mem s l)) ∧ w' = w := by
  have hlm : l.length ≤ cap ∧ cap ≤ 9223372036854775807 := ⟨by have := hl.le; rw [List.length_map] at this; exact this, hl.max⟩
  obtain ⟨L, HL⟩ : ∃ L, Hid (l.length = L) := ⟨_, Lib.hid rfl⟩
  rw [HL.out] at hlm ⊢
  obtain ⟨R, hR⟩ : ∃ R, Hid (mem s l = R) := ⟨_, Lib.hid rfl⟩
  rw [hR.out]
  go_enter Try.func137, Try.ntmps137
  go_wp2_with (fail)
  go_loopw [9] (fun iv wr => ∃ k : Nat, k ≤ L ∧ iv = .int .i64 (k : Int) ∧ R = mem s (l.drop k) ∧ wr = w) (fun iv _ => L - (intOf iv).toNat)
  case atStart => exact ⟨0, Nat.zero_le _, rfl, hR.out.symm, rfl⟩
  case round =>
    obtain ⟨k, hk, rfl, hr, hbr⟩ := hrel
    subst hbr
    have HR := Lib.hid hr
    clear hr
    by_cases hlt : k < L
    · have hkI : (k : Int) < (L : Int) := by omega
      have hkI0 : (0 : Int) ≤ (k : Int) := by omega
      have hkl : k < l.length := by rw [HL.out]; exact hlt
      obtain ⟨b, off, rfl⟩ := hl.at_ k (by rw [List.length_map]; exact hkl)
      have c0 := hl.cell b off rfl k (by rw [List.length_map]; exact hkl)
      rw [List.getElem_map] at c0
      have hdr : Hid (l.drop k = l[k] :: l.drop (k + 1)) := Lib.hid (List.drop_eq_getElem_cons hkl)
      obtain ⟨e, he⟩ : ∃ v, Hid (l[k] = v) := ⟨_, Lib.hid rfl⟩
      rw [he.out] at c0
      have hbl := World.block_lt_of_cell? _ _ c0
      by_cases e1 : e = s
      · subst e1
        have hF : Hid (R = true) := Lib.hid (by rw [HR.out, hdr.out, he.out]; simp [mem])
        clear hl
        go_wp2_with (fail)
        exact bodyPost_ret (v := .bool true) (by simp [results, Try.results137, go_sem]; try first | rfl | assumption | omega) rfl ⟨by rw [hF.out], rfl⟩
      · have e3 : (e.toList == s.toList) = false := str_ne e1
        have hN := Lib.hid e1
        clear e1
        go_wp2_with (fail)
        exact ⟨⟨k + 1, by omega, by simp, by rw [HR.out, hdr.out, he.out]; simp [mem, hN.out], by first | rfl | trivial⟩, by simp [intOf]; omega⟩
    · obtain rfl : k = L := by omega
      have hkI : ¬ (k : Int) < (k : Int) := by omega
      have hT : Hid (R = false) := Lib.hid (by rw [HR.out, List.drop_eq_nil_of_le (by rw [HL.out]; exact Nat.le_refl _)]; rfl)
      go_wp2_with (fail)
      exact bodyPost_ret (v := .bool false) (by simp [results, Try.results137, go_sem]; try first | rfl | assumption | omega) rfl ⟨by rw [hT.out], rfl⟩

set_option maxRecDepth 100000 in
set_option maxHeartbeats 1000000 in
theorem place_any (l : List ByteArray) (a : Option Addr) (cap : Nat) (s : ByteArray) (w : World) (hl : Nms w a cap l) :
    Calls Try.prog 140 #[.slice a l.length cap, .string s] w fun r w' => r = .returned (.int .i64 (plcP s 0 l)) ∧ w' = w := by
  have hlm : l.length ≤ cap ∧ cap ≤ 9223372036854775807 := ⟨by have := hl.le; rw [List.length_map] at this; exact this, hl.max⟩
  obtain ⟨L, HL⟩ : ∃ L, Hid (l.length = L) := ⟨_, Lib.hid rfl⟩
  rw [HL.out] at hlm ⊢
  obtain ⟨R, hR⟩ : ∃ R, Hid (plcP s 0 l = R) := ⟨_, Lib.hid rfl⟩
  rw [hR.out]
  go_enter Try.func140, Try.ntmps140
  go_wp2_with (fail)
  go_loopw [9] (fun iv wr => ∃ k : Nat, k ≤ L ∧ iv = .int .i64 (k : Int) ∧ R = plcP s k (l.drop k) ∧ wr = w) (fun iv _ => L - (intOf iv).toNat)
  case atStart => exact ⟨0, Nat.zero_le _, rfl, hR.out.symm, rfl⟩
  case round =>
    obtain ⟨k, hk, rfl, hr, hbr⟩ := hrel
    subst hbr
    have HR := Lib.hid hr
    clear hr
    by_cases hlt : k < L
    · have hkI : (k : Int) < (L : Int) := by omega
      have hkI0 : (0 : Int) ≤ (k : Int) := by omega
      have hkl : k < l.length := by rw [HL.out]; exact hlt
      obtain ⟨b, off, rfl⟩ := hl.at_ k (by rw [List.length_map]; exact hkl)
      have c0 := hl.cell b off rfl k (by rw [List.length_map]; exact hkl)
      rw [List.getElem_map] at c0
      have hdr : Hid (l.drop k = l[k] :: l.drop (k + 1)) := Lib.hid (List.drop_eq_getElem_cons hkl)
      obtain ⟨e, he⟩ : ∃ v, Hid (l[k] = v) := ⟨_, Lib.hid rfl⟩
      rw [he.out] at c0
      have hbl := World.block_lt_of_cell? _ _ c0
      by_cases e1 : e = s
      · subst e1
        have hF : Hid (R = (k : Int)) := Lib.hid (by rw [HR.out, hdr.out, he.out, plcP, if_pos rfl])
        clear hl
        go_wp2_with (fail)
        exact bodyPost_ret (v := .int .i64 (k : Int)) (by simp [results, Try.results140, go_sem]; try first | rfl | assumption | omega) rfl ⟨by rw [hF.out], rfl⟩
      · have e3 : (e.toList == s.toList) = false := str_ne e1
        have hN := Lib.hid e1
        clear e1
        go_wp2_with (fail)
        exact ⟨⟨k + 1, by omega, by simp, by rw [HR.out, hdr.out, he.out, plcP, if_neg hN.out], by first | rfl | trivial⟩, by simp [intOf]; omega⟩
    · obtain rfl : k = L := by omega
      have hkI : ¬ (k : Int) < (k : Int) := by omega
      have hT : Hid (R = -1) := Lib.hid (by rw [HR.out, List.drop_eq_nil_of_le (by rw [HL.out]; exact Nat.le_refl _)]; rfl)
      go_wp2_with (fail)
      exact bodyPost_ret (v := .int .i64 (-1)) (by simp [results, Try.results140, go_sem]; try first | rfl | assumption | omega) rfl ⟨by rw [hT.out], rfl⟩

set_option maxRecDepth 100000 in
set_option maxHeartbeats 1000000 in
theorem refAll_any (l : List ByteArray) (a : Option Addr) (cap : Nat) (m : List ByteArray) (c : Option Addr) (cm : Nat) (w : World) (hl : Nms w a cap l) (hm : Nms w c cm m) :
    Calls Try.prog 172 #[.slice a l.length cap, .slice c m.length cm] w fun r w' => r = .returned (.bool (l.all (fun n => mem n m))) ∧ w' = w := by
  have hlm : l.length ≤ cap ∧ cap ≤ 9223372036854775807 := ⟨by have := hl.le; rw [List.length_map] at this; exact this, hl.max⟩
  obtain ⟨L, HL⟩ : ∃ L, Hid (l.length = L) := ⟨_, Lib.hid rfl⟩
  rw [HL.out] at hlm ⊢
  obtain ⟨R, hR⟩ : ∃ R, Hid (l.all (fun n => mem n m) = R) := ⟨_, Lib.hid rfl⟩
  rw [hR.out]
  go_enter Try.func172, Try.ntmps172
  go_wp2_with (fail)
  go_loopw [9] (fun iv wr => ∃ k : Nat, k ≤ L ∧ iv = .int .i64 (k : Int) ∧ R = (l.drop k).all (fun n => mem n m) ∧ wr = w) (fun iv _ => L - (intOf iv).toNat)
  case atStart => exact ⟨0, Nat.zero_le _, rfl, hR.out.symm, rfl⟩
  case round =>
    obtain ⟨k, hk, rfl, hr, hbr⟩ := hrel
    subst hbr
    have HR := Lib.hid hr
    clear hr
    by_cases hlt : k < L
    · have hkI : (k : Int) < (L : Int) := by omega
      have hkI0 : (0 : Int) ≤ (k : Int) := by omega
      have hkl : k < l.length := by rw [HL.out]; exact hlt
      obtain ⟨b, off, rfl⟩ := hl.at_ k (by rw [List.length_map]; exact hkl)
      have c0 := hl.cell b off rfl k (by rw [List.length_map]; exact hkl)
      rw [List.getElem_map] at c0
      have hdr : Hid (l.drop k = l[k] :: l.drop (k + 1)) := Lib.hid (List.drop_eq_getElem_cons hkl)
      obtain ⟨e, he⟩ : ∃ v, Hid (l[k] = v) := ⟨_, Lib.hid rfl⟩
      rw [he.out] at c0
      have hbl := World.block_lt_of_cell? _ _ c0
      have Hc := Lib.hid (refHas_any m c cm e wr hm)
      obtain ⟨S, hS⟩ : ∃ S, Hid (mem e m = S) := ⟨_, Lib.hid rfl⟩
      rw [hS.out] at Hc
      go_wp2_with (fail)
      refine Hc.out.mono ?_
      rintro r w3 ⟨rfl, hw3⟩
      subst w3
      cases S
      · have hF : Hid (R = false) := Lib.hid (by rw [HR.out, hdr.out, List.all_cons, he.out, hS.out, Bool.false_and])
        go_wp2_with (fail)
        exact bodyPost_ret (v := .bool false) (by simp [results, Try.results172, go_sem]; try first | rfl | assumption | omega) rfl ⟨by rw [hF.out], rfl⟩
      · go_wp2_with (fail)
        exact ⟨⟨k + 1, by omega, by simp, by rw [HR.out, hdr.out, List.all_cons, he.out, hS.out, Bool.true_and], by first | rfl | trivial⟩, by simp [intOf]; omega⟩
    · obtain rfl : k = L := by omega
      have hkI : ¬ (k : Int) < (k : Int) := by omega
      have hT : Hid (R = true) := Lib.hid (by rw [HR.out, List.drop_eq_nil_of_le (by rw [HL.out]; exact Nat.le_refl _)]; rfl)
      go_wp2_with (fail)
      exact bodyPost_ret (v := .bool true) (by simp [results, Try.results172, go_sem]; try first | rfl | assumption | omega) rfl ⟨by rw [hT.out], rfl⟩
end Go.Proofs.Ythogiakfbgehnaa

namespace Go.Proofs.Ythogiakfbgehnaa
open Go.RowKit

attribute [local go_sem] Oper.semAt_some

/-- A flaw: its kind, its name. -/
abbrev Fl := Int × ByteArray
def flC (f : Fl) : List Value := [.int .i64 f.1, .string f.2]
/-- Flaws, each of two cells. -/
structure Fls (w : World) (a : Option Addr) (cap : Nat) (l : List Fl) : Prop where
  le : l.length ≤ cap
  max : cap ≤ 9223372036854775807
  at_ : ∀ i, i < l.length → ∃ b off, a = some ⟨b, off, none⟩
  cell : ∀ b off, a = some ⟨b, off, none⟩ → ∀ i, (h : i < l.length) → w.cell? ⟨b, off + i * 2, none⟩ = some (.int .i64 l[i].1) ∧ w.cell? ⟨b, off + i * 2 + 1, none⟩ = some (.string l[i].2)
theorem Fls.grown {w w' : World} {a : Option Addr} {cap : Nat} {l : List Fl} (h : Fls w a cap l) (hb : Below w.heap.size w w') : Fls w' a cap l :=
  ⟨h.le, h.max, h.at_, fun b off e i hi => ⟨cell_up hb (h.cell b off e i hi).1, cell_up hb (h.cell b off e i hi).2⟩⟩
/-- An own row of flaws. -/
abbrev OwnF (w : World) (base : Nat) (a : Option Addr) (cap : Nat) (l : List Fl) : Prop := w.ownsRow base 217 2 (.slice a l.length cap) l.length (l.flatMap flC)
theorem flC_at (l : List Fl) (i : Nat) (h : i < l.length) : (l.flatMap flC)[i * 2]? = some (.int .i64 l[i].1) ∧ (l.flatMap flC)[i * 2 + 1]? = some (.string l[i].2) := by
  induction l generalizing i with
  | nil => simp at h
  | cons f r ih =>
    rw [List.flatMap_cons]
    cases i with
    | zero => exact ⟨rfl, rfl⟩
    | succ j =>
      have hj : j < r.length := by simpa using h
      have := ih j hj
      rw [show (j + 1) * 2 = 2 + j * 2 by omega, show 2 + j * 2 + 1 = 2 + (j * 2 + 1) by omega]
      rw [List.getElem?_append_right (by simp [flC]), List.getElem?_append_right (by simp [flC])]
      simpa [flC] using this
theorem own_fls {w : World} {base cap : Nat} {a : Option Addr} {l : List Fl} (h : OwnF w base a cap l) : Fls w a cap l := by
  rcases h.2 with ⟨e1, e2⟩ | ⟨g, cap', cur, e1, hb, hg, hle, hm, hs, ht⟩
  · have : l = [] := List.length_eq_zero_iff.1 e2
    subst this
    exact ⟨by simp, by simp only [Value.slice.injEq] at e1; omega, fun i h => by simp at h, fun b off e i hi => by simp at hi⟩
  · simp only [Value.slice.injEq] at e1
    obtain ⟨rfl, -, rfl⟩ := e1
    refine ⟨hle, by unfold maxLen at hm; omega, fun i _ => ⟨g, 0, rfl⟩, ?_⟩
    intro b off e i hi
    cases e
    have h1 := h.cellAt (i * 2) (by omega)
    have h2 := h.cellAt (i * 2 + 1) (by omega)
    have := flC_at l i hi
    exact ⟨by rw [Nat.zero_add, h1]; exact this.1, by rw [Nat.zero_add, h2]; exact this.2⟩
theorem below_at {B : Nat} {a b : World} {r : Option Nat} (h : a.grownBy b r) (hr : ∀ i, r = some i → B ≤ i) (hB : B ≤ a.heap.size) : Below B a b :=
  ⟨h.os, h.tape, h.output, h.size, fun k hk => h.block k (Nat.lt_of_lt_of_le hk hB) (fun e => by have := hr k e.symm; omega)⟩
theorem info_flaw : (Try.prog.info? 217).map (fun i => (i.zero, i.size, i.bytes)) = some (some (.agg #[.int .i64 0, .string ⟨#[]⟩]), 2, 24) := by kernel_rfl

set_option maxRecDepth 100000 in
set_option maxHeartbeats 2000000 in
theorem names_any (rs : List RlD) (a : Option Addr) (cap : Nat) (w : World) (hl : Rls w a cap rs) (hfew : rs.length ≤ 1000000) :
    Calls Try.prog 139 #[.agg #[.slice a rs.length cap]] w fun r w' => ∃ a' c', r = .returned (.slice a' rs.length c') ∧ w'.ownsRow w.heap.size 9 1 (.slice a' rs.length c') rs.length ((rs.map RlD.n).map Value.string) ∧ Below w.heap.size w w' := by
  have hlm : rs.length ≤ cap ∧ cap ≤ 9223372036854775807 := ⟨hl.le, hl.max⟩
  have hA0 := Blk.new w 124 #[.slice a rs.length cap]
  have hb0 : Below w.heap.size w (w.alloc (.cells #[.slice a rs.length cap] 124)) := (Below.refl _ w).alloc (Nat.le_refl _) _
  have hs0 : w.heap.size < (w.alloc (.cells #[.slice a rs.length cap] 124)).heap.size := by simp [go_sem]
  obtain ⟨L, HL⟩ : ∃ L, Hid (rs.length = L) := ⟨_, Lib.hid rfl⟩
  rw [HL.out] at hlm hfew hA0 hb0 hs0 ⊢
  have x0 := hA0.cell 0
  have xl := hA0.lt
  simp only [List.getElem?_cons_zero] at x0
  go_enter Try.func139, Try.ntmps139
  go_wp2_with (fail)
  generalize hW : World.alloc w _ = W at x0 xl hA0 hb0 hs0 ⊢
  have HW := Lib.hid hW
  clear hW hA0
  go_loopw [3, 9] (fun s iv wr => ∃ (k : Nat) (a' : Option Addr) (c' : Nat), k ≤ L ∧ iv = .int .i64 (k : Int) ∧ s = .slice a' k c' ∧ wr.ownsRow w.heap.size 9 1 (.slice a' k c') k (((rs.take k).map RlD.n).map Value.string) ∧ Below w.heap.size w wr) (fun _ iv _ => L - (intOf iv).toNat)
  case atStart => exact ⟨0, none, 0, Nat.zero_le _, rfl, rfl, by simpa using World.ownsRow_nil W _ _ 1, hb0⟩
  case round =>
    obtain ⟨k, a', c', hk, rfl, rfl, hown, hbw⟩ := hrel
    by_cases hlt : k < L
    · have hkI : (k : Int) < (L : Int) := by omega
      have hkI0 : (0 : Int) ≤ (k : Int) := by omega
      have hkl : k < rs.length := by rw [HL.out]; exact hlt
      obtain ⟨b, off, rfl⟩ := hl.at_ k hkl
      obtain ⟨c0, c1⟩ := (hl.grown hbw).cell b off rfl k hkl
      obtain ⟨e, he⟩ : ∃ v, Hid (rs[k] = v) := ⟨_, Lib.hid rfl⟩
      have htk : Hid (((rs.take (k + 1)).map RlD.n).map Value.string = ((rs.take k).map RlD.n).map Value.string ++ [.string e.n]) := Lib.hid (by rw [List.take_add_one, List.getElem?_eq_getElem hkl, he.out]; simp)
      rw [he.out] at c0 c1
      have hbl := World.block_lt_of_cell? wr _ c0
      have hB0 := Blk.new wr 177 #[.string e.n, .slice e.a e.ds.length e.c]
      obtain ⟨M, HM⟩ : ∃ M, Hid (e.ds.length = M) := ⟨_, Lib.hid rfl⟩
      rw [HM.out] at hB0 c1
      have y0 := hB0.cell 0
      have yl := hB0.lt
      simp only [List.getElem?_cons_zero] at y0
      obtain ⟨a2, c2, w2, hrun, ho, hg⟩ := run_pushV (wr.alloc (.cells #[.string e.n, .slice e.a M e.c] 177)) 22 22 9 _ 1 16 Try.underlying22 info_str rfl (by decide) (by decide) [.string e.n] rfl (by simp [Value.oneCell']) (hown.alloc _) (by omega) (by have := hbw.size; simp [go_sem]; omega)
      rw [show (wr.alloc (.cells #[.string e.n, .slice e.a M e.c] 177)).heap.size = wr.heap.size + 1 by simp [go_sem]] at hrun
      have Hrun := Lib.hid hrun
      have HB := Lib.hid ((hbw.alloc hbw.size (.cells #[.string e.n, .slice e.a M e.c] 177)).trans (below_at hg (fun g e0 => (own_typ hown g e0).1) (by have := hbw.size; simp [go_sem]; omega)))
      have HO := Lib.hid ho
      clear hrun ho hg hB0 hown
      go_wp2_with (at_builtin; refine wpList_append_run rfl _ _ 22 22 rfl _ _ _ _ rfl rfl Hrun.out ?_)
      exact ⟨⟨k + 1, a2, c2, by omega, by go_num, rfl, by have := HO.out; rw [← htk.out] at this; simpa using this, HB.out⟩, by simp [intOf]; omega⟩
    · obtain rfl : k = L := by omega
      have hkI : ¬ (k : Int) < (k : Int) := by omega
      have hT : Hid (rs.take k = rs) := Lib.hid (List.take_of_length_le (by rw [HL.out]; exact Nat.le_refl _))
      have HO := Lib.hid hown
      clear hown
      go_wp2_with (fail)
      exact bodyPost_ret (v := .slice a' k c') (by simp [results, Try.results139, go_sem]; try first | rfl | assumption | omega) rfl ⟨a', c', rfl, by have := HO.out; rw [hT.out] at this; simpa using this, hbw⟩
end Go.Proofs.Ythogiakfbgehnaa

