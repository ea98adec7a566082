/- Layer 7: the reference's IsName. -/
import Derived.Test.YtoaabfdilhbajaaXv
namespace Go.Proofs.Ytoaabfdilhbajaa
open Go.RowKit Go.Shelf

attribute [local go_sem] Oper.semAt_some

/-- In which part of the bytes one lies. -/
theorem byte_part (n : Nat) : n < 48 ∨ (48 ≤ n ∧ n ≤ 57) ∨ (57 < n ∧ n < 65) ∨ (65 ≤ n ∧ n ≤ 90) ∨ (90 < n ∧ n < 95) ∨ n = 95 ∨ n = 96 ∨ (97 ≤ n ∧ n ≤ 122) ∨ 122 < n := by omega
/-- What stands at a place of a name. -/
def atP (k : Nat) (d : UInt8) : Bool := letB d || (decide (0 < k) && digB d)

set_option maxRecDepth 100000 in
set_option maxHeartbeats 4000000 in
theorem refIsName_any (s : ByteArray) (w : World) :
    Calls Try.prog 38 #[.string s] w fun e w' => e = .returned (.bool (nameB s)) ∧ w' = w := by
  obtain ⟨q, hq⟩ : ∃ q, Hid (nameB s = q) := ⟨_, Lib.hid rfl⟩
  rw [hq.out]
  by_cases h0 : s.size < 1
  · have h0I : (s.size : Int) < 1 := by omega
    have hF : q = false := by
      rw [← hq.out]
      unfold nameB
      have : s.data.toList = [] := List.eq_nil_of_length_eq_zero (by rw [dlen]; omega)
      rw [this]; rfl
    subst hF
    go_enter Try.func38, Try.ntmps38
    go_wp2_with (fail)
    exact bodyPost_ret (v := .bool false) (by simp [results, Try.results38, go_sem]; try first | rfl | assumption | omega) rfl ⟨rfl, rfl⟩
  have h0I : ¬ (s.size : Int) < 1 := by omega
  obtain ⟨c, r, hcr⟩ : ∃ c r, s.data.toList = c :: r := by
    cases h : s.data.toList with
    | nil => have := dlen s; rw [h] at this; simp at this; omega
    | cons c r => exact ⟨c, r, rfl⟩
  have hlen : r.length + 1 = s.size := by rw [← dlen s, hcr]; rfl
  have HQ : Hid (q = (decide (r.length < 32) && !digB c && (c :: r).all (fun d => letB d || digB d))) := Lib.hid (by rw [← hq.out]; unfold nameB; rw [hcr]; rfl)
  by_cases h32 : 32 < s.size
  · have h32I : (32 : Int) < (s.size : Int) := by omega
    have hF : q = false := by rw [HQ.out, decide_eq_false (by omega)]; rfl
    subst hF
    go_enter Try.func38, Try.ntmps38
    go_wp2_with (fail)
    exact bodyPost_ret (v := .bool false) (by simp [results, Try.results38, go_sem]; try first | rfl | assumption | omega) rfl ⟨rfl, rfl⟩
  have h32I : ¬ (32 : Int) < (s.size : Int) := by omega
  have HQ0 : Hid (∀ d, s.data.toList[0]? = some d → q = (atP 0 d && (s.data.toList.drop 1).all (fun d => letB d || digB d))) := Lib.hid (fun d hd => by
    rw [hcr] at hd ⊢
    simp only [List.getElem?_cons_zero, Option.some.injEq] at hd
    subst hd
    rw [HQ.out, decide_eq_true (by omega), List.all_cons]
    unfold atP
    simp only [List.drop_succ_cons, List.drop_zero]
    cases hL : letB c <;> cases hD : digB c <;> simp
    have : letB c = true → digB c = true → False := fun h1 h2 => by
      unfold letB at h1; unfold digB at h2
      simp only [Bool.or_eq_true, Bool.and_eq_true, decide_eq_true_eq] at h1 h2
      omega
    exact absurd hD (fun h => this hL h))
  clear HQ hcr hlen
  go_enter Try.func38, Try.ntmps38
  go_wp2_with (fail)
  go_loopw [3] (fun iv wr => ∃ k : Nat, k ≤ s.size ∧ iv = .int .i64 (k : Int) ∧ Hid (0 < k → q = (s.data.toList.drop k).all (fun d => letB d || digB d)) ∧ wr = w) (fun iv _ => s.size - (intOf iv).toNat)
  case atStart => exact ⟨0, Nat.zero_le _, rfl, Lib.hid (fun h => absurd h (Nat.lt_irrefl _)), rfl⟩
  case round =>
    obtain ⟨k, hk, rfl, HK, hwr⟩ := hrel
    subst wr
    by_cases hlt : k < s.size
    · have hkI : (k : Int) < (s.size : Int) := by omega
      have hkI0 : (0 : Int) ≤ (k : Int) := by omega
      have hkl : k < s.data.toList.length := by rw [dlen]; exact hlt
      obtain ⟨d, hd⟩ : ∃ d, Hid (s[k] = d) := ⟨_, Lib.hid rfl⟩
      have hd1 : s.data.toList[k] = d := hd.out
      have HD := hd.out
      have HK2 : Hid (q = (atP k d && (s.data.toList.drop (k + 1)).all (fun d => letB d || digB d))) := Lib.hid (by
        by_cases hk0 : k = 0
        · subst hk0
          exact HQ0.out d (by rw [List.getElem?_eq_getElem hkl, hd1])
        · rw [HK.out (by omega), List.drop_eq_getElem_cons hkl, hd1, List.all_cons]
          unfold atP
          rw [decide_eq_true (by omega), Bool.true_and])
      clear HK HQ0 hd1
      have hgood : Hid (atP k d = true → q = (s.data.toList.drop (k + 1)).all (fun d => letB d || digB d)) := Lib.hid (fun h => by rw [HK2.out, h, Bool.true_and])
      have hbad : Hid (atP k d = false → q = false) := Lib.hid (fun h => by rw [HK2.out, h, Bool.false_and])
      clear HK2
      have hA : Hid (atP k d = (letB d || (decide (0 < k) && digB d))) := Lib.hid rfl
      by_cases hk0 : k = 0
      · subst hk0
        rcases byte_part d.toNat with hp | hp | hp | hp | hp | hp | hp | hp | hp
        ·
          have t1 : ¬ (97 : Int) ≤ (d.toNat : Int) := by omega
          have t2 : (d.toNat : Int) ≤ 122 := by omega
          have t3 : ¬ (65 : Int) ≤ (d.toNat : Int) := by omega
          have t4 : (d.toNat : Int) ≤ 90 := by omega
          have t5 : ((d.toNat : Int) == 95) = false := by rw [beq_eq_false_iff_ne]; omega
          have t6 : (d.toNat : Int) < 48 := by omega
          have t7 : ¬ (57 : Int) < (d.toNat : Int) := by omega
          have hF := Lib.hid (hbad.out (by rw [hA.out, let_f (by omega), dig_f (by omega)]; cases decide (0 < 0) <;> rfl))
          go_wp2_with (fail)
          exact bodyPost_ret (v := .bool false) (by simp [results, Try.results38, go_sem]; try first | rfl | assumption | omega) rfl ⟨by rw [hF.out], rfl⟩
        ·
          have t1 : ¬ (97 : Int) ≤ (d.toNat : Int) := by omega
          have t2 : (d.toNat : Int) ≤ 122 := by omega
          have t3 : ¬ (65 : Int) ≤ (d.toNat : Int) := by omega
          have t4 : (d.toNat : Int) ≤ 90 := by omega
          have t5 : ((d.toNat : Int) == 95) = false := by rw [beq_eq_false_iff_ne]; omega
          have t6 : ¬ (d.toNat : Int) < 48 := by omega
          have t7 : ¬ (57 : Int) < (d.toNat : Int) := by omega
          have hF := Lib.hid (hbad.out (by rw [hA.out, let_f (by omega), dig_t (by omega)]; rfl))
          go_wp2_with (fail)
          exact bodyPost_ret (v := .bool false) (by simp [results, Try.results38, go_sem]; try first | rfl | assumption | omega) rfl ⟨by rw [hF.out], rfl⟩
        ·
          have t1 : ¬ (97 : Int) ≤ (d.toNat : Int) := by omega
          have t2 : (d.toNat : Int) ≤ 122 := by omega
          have t3 : ¬ (65 : Int) ≤ (d.toNat : Int) := by omega
          have t4 : (d.toNat : Int) ≤ 90 := by omega
          have t5 : ((d.toNat : Int) == 95) = false := by rw [beq_eq_false_iff_ne]; omega
          have t6 : ¬ (d.toNat : Int) < 48 := by omega
          have t7 : (57 : Int) < (d.toNat : Int) := by omega
          have hF := Lib.hid (hbad.out (by rw [hA.out, let_f (by omega), dig_f (by omega)]; cases decide (0 < 0) <;> rfl))
          go_wp2_with (fail)
          exact bodyPost_ret (v := .bool false) (by simp [results, Try.results38, go_sem]; try first | rfl | assumption | omega) rfl ⟨by rw [hF.out], rfl⟩
        ·
          have t1 : ¬ (97 : Int) ≤ (d.toNat : Int) := by omega
          have t2 : (d.toNat : Int) ≤ 122 := by omega
          have t3 : (65 : Int) ≤ (d.toNat : Int) := by omega
          have t4 : (d.toNat : Int) ≤ 90 := by omega
          have t5 : ((d.toNat : Int) == 95) = false := by rw [beq_eq_false_iff_ne]; omega
          have t6 : ¬ (d.toNat : Int) < 48 := by omega
          have t7 : (57 : Int) < (d.toNat : Int) := by omega
          have hG := Lib.hid (hgood.out (by rw [hA.out, let_t (by omega)]; rfl))
          go_wp2_with (fail)
          exact ⟨⟨0 + 1, by omega, by simp, Lib.hid (fun _ => hG.out), by first | rfl | trivial⟩, by simp [intOf]; omega⟩
        ·
          have t1 : ¬ (97 : Int) ≤ (d.toNat : Int) := by omega
          have t2 : (d.toNat : Int) ≤ 122 := by omega
          have t3 : (65 : Int) ≤ (d.toNat : Int) := by omega
          have t4 : ¬ (d.toNat : Int) ≤ 90 := by omega
          have t5 : ((d.toNat : Int) == 95) = false := by rw [beq_eq_false_iff_ne]; omega
          have t6 : ¬ (d.toNat : Int) < 48 := by omega
          have t7 : (57 : Int) < (d.toNat : Int) := by omega
          have hF := Lib.hid (hbad.out (by rw [hA.out, let_f (by omega), dig_f (by omega)]; cases decide (0 < 0) <;> rfl))
          go_wp2_with (fail)
          exact bodyPost_ret (v := .bool false) (by simp [results, Try.results38, go_sem]; try first | rfl | assumption | omega) rfl ⟨by rw [hF.out], rfl⟩
        ·
          have t1 : ¬ (97 : Int) ≤ (d.toNat : Int) := by omega
          have t2 : (d.toNat : Int) ≤ 122 := by omega
          have t3 : (65 : Int) ≤ (d.toNat : Int) := by omega
          have t4 : ¬ (d.toNat : Int) ≤ 90 := by omega
          have t5 : ((d.toNat : Int) == 95) = true := by rw [beq_iff_eq]; omega
          have t6 : ¬ (d.toNat : Int) < 48 := by omega
          have t7 : (57 : Int) < (d.toNat : Int) := by omega
          have hG := Lib.hid (hgood.out (by rw [hA.out, let_t (by omega)]; rfl))
          go_wp2_with (fail)
          exact ⟨⟨0 + 1, by omega, by simp, Lib.hid (fun _ => hG.out), by first | rfl | trivial⟩, by simp [intOf]; omega⟩
        ·
          have t1 : ¬ (97 : Int) ≤ (d.toNat : Int) := by omega
          have t2 : (d.toNat : Int) ≤ 122 := by omega
          have t3 : (65 : Int) ≤ (d.toNat : Int) := by omega
          have t4 : ¬ (d.toNat : Int) ≤ 90 := by omega
          have t5 : ((d.toNat : Int) == 95) = false := by rw [beq_eq_false_iff_ne]; omega
          have t6 : ¬ (d.toNat : Int) < 48 := by omega
          have t7 : (57 : Int) < (d.toNat : Int) := by omega
          have hF := Lib.hid (hbad.out (by rw [hA.out, let_f (by omega), dig_f (by omega)]; cases decide (0 < 0) <;> rfl))
          go_wp2_with (fail)
          exact bodyPost_ret (v := .bool false) (by simp [results, Try.results38, go_sem]; try first | rfl | assumption | omega) rfl ⟨by rw [hF.out], rfl⟩
        ·
          have t1 : (97 : Int) ≤ (d.toNat : Int) := by omega
          have t2 : (d.toNat : Int) ≤ 122 := by omega
          have t3 : (65 : Int) ≤ (d.toNat : Int) := by omega
          have t4 : ¬ (d.toNat : Int) ≤ 90 := by omega
          have t5 : ((d.toNat : Int) == 95) = false := by rw [beq_eq_false_iff_ne]; omega
          have t6 : ¬ (d.toNat : Int) < 48 := by omega
          have t7 : (57 : Int) < (d.toNat : Int) := by omega
          have hG := Lib.hid (hgood.out (by rw [hA.out, let_t (by omega)]; rfl))
          go_wp2_with (fail)
          exact ⟨⟨0 + 1, by omega, by simp, Lib.hid (fun _ => hG.out), by first | rfl | trivial⟩, by simp [intOf]; omega⟩
        ·
          have t1 : (97 : Int) ≤ (d.toNat : Int) := by omega
          have t2 : ¬ (d.toNat : Int) ≤ 122 := by omega
          have t3 : (65 : Int) ≤ (d.toNat : Int) := by omega
          have t4 : ¬ (d.toNat : Int) ≤ 90 := by omega
          have t5 : ((d.toNat : Int) == 95) = false := by rw [beq_eq_false_iff_ne]; omega
          have t6 : ¬ (d.toNat : Int) < 48 := by omega
          have t7 : (57 : Int) < (d.toNat : Int) := by omega
          have hF := Lib.hid (hbad.out (by rw [hA.out, let_f (by omega), dig_f (by omega)]; cases decide (0 < 0) <;> rfl))
          go_wp2_with (fail)
          exact bodyPost_ret (v := .bool false) (by simp [results, Try.results38, go_sem]; try first | rfl | assumption | omega) rfl ⟨by rw [hF.out], rfl⟩
      · have hkp : ((k : Int) == 0) = false := by rw [beq_eq_false_iff_ne]; omega
        rcases byte_part d.toNat with hp | hp | hp | hp | hp | hp | hp | hp | hp
        ·
          have t1 : ¬ (97 : Int) ≤ (d.toNat : Int) := by omega
          have t2 : (d.toNat : Int) ≤ 122 := by omega
          have t3 : ¬ (65 : Int) ≤ (d.toNat : Int) := by omega
          have t4 : (d.toNat : Int) ≤ 90 := by omega
          have t5 : ((d.toNat : Int) == 95) = false := by rw [beq_eq_false_iff_ne]; omega
          have t6 : (d.toNat : Int) < 48 := by omega
          have t7 : ¬ (57 : Int) < (d.toNat : Int) := by omega
          have hF := Lib.hid (hbad.out (by rw [hA.out, let_f (by omega), dig_f (by omega)]; cases decide (0 < k) <;> rfl))
          go_wp2_with (fail)
          exact bodyPost_ret (v := .bool false) (by simp [results, Try.results38, go_sem]; try first | rfl | assumption | omega) rfl ⟨by rw [hF.out], rfl⟩
        ·
          have t1 : ¬ (97 : Int) ≤ (d.toNat : Int) := by omega
          have t2 : (d.toNat : Int) ≤ 122 := by omega
          have t3 : ¬ (65 : Int) ≤ (d.toNat : Int) := by omega
          have t4 : (d.toNat : Int) ≤ 90 := by omega
          have t5 : ((d.toNat : Int) == 95) = false := by rw [beq_eq_false_iff_ne]; omega
          have t6 : ¬ (d.toNat : Int) < 48 := by omega
          have t7 : ¬ (57 : Int) < (d.toNat : Int) := by omega
          have hG := Lib.hid (hgood.out (by rw [hA.out, let_f (by omega), dig_t (by omega)]; rw [decide_eq_true (by omega)]; rfl))
          go_wp2_with (fail)
          exact ⟨⟨k + 1, by omega, by simp, Lib.hid (fun _ => hG.out), by first | rfl | trivial⟩, by simp [intOf]; omega⟩
        ·
          have t1 : ¬ (97 : Int) ≤ (d.toNat : Int) := by omega
          have t2 : (d.toNat : Int) ≤ 122 := by omega
          have t3 : ¬ (65 : Int) ≤ (d.toNat : Int) := by omega
          have t4 : (d.toNat : Int) ≤ 90 := by omega
          have t5 : ((d.toNat : Int) == 95) = false := by rw [beq_eq_false_iff_ne]; omega
          have t6 : ¬ (d.toNat : Int) < 48 := by omega
          have t7 : (57 : Int) < (d.toNat : Int) := by omega
          have hF := Lib.hid (hbad.out (by rw [hA.out, let_f (by omega), dig_f (by omega)]; cases decide (0 < k) <;> rfl))
          go_wp2_with (fail)
          exact bodyPost_ret (v := .bool false) (by simp [results, Try.results38, go_sem]; try first | rfl | assumption | omega) rfl ⟨by rw [hF.out], rfl⟩
        ·
          have t1 : ¬ (97 : Int) ≤ (d.toNat : Int) := by omega
          have t2 : (d.toNat : Int) ≤ 122 := by omega
          have t3 : (65 : Int) ≤ (d.toNat : Int) := by omega
          have t4 : (d.toNat : Int) ≤ 90 := by omega
          have t5 : ((d.toNat : Int) == 95) = false := by rw [beq_eq_false_iff_ne]; omega
          have t6 : ¬ (d.toNat : Int) < 48 := by omega
          have t7 : (57 : Int) < (d.toNat : Int) := by omega
          have hG := Lib.hid (hgood.out (by rw [hA.out, let_t (by omega)]; rfl))
          go_wp2_with (fail)
          exact ⟨⟨k + 1, by omega, by simp, Lib.hid (fun _ => hG.out), by first | rfl | trivial⟩, by simp [intOf]; omega⟩
        ·
          have t1 : ¬ (97 : Int) ≤ (d.toNat : Int) := by omega
          have t2 : (d.toNat : Int) ≤ 122 := by omega
          have t3 : (65 : Int) ≤ (d.toNat : Int) := by omega
          have t4 : ¬ (d.toNat : Int) ≤ 90 := by omega
          have t5 : ((d.toNat : Int) == 95) = false := by rw [beq_eq_false_iff_ne]; omega
          have t6 : ¬ (d.toNat : Int) < 48 := by omega
          have t7 : (57 : Int) < (d.toNat : Int) := by omega
          have hF := Lib.hid (hbad.out (by rw [hA.out, let_f (by omega), dig_f (by omega)]; cases decide (0 < k) <;> rfl))
          go_wp2_with (fail)
          exact bodyPost_ret (v := .bool false) (by simp [results, Try.results38, go_sem]; try first | rfl | assumption | omega) rfl ⟨by rw [hF.out], rfl⟩
        ·
          have t1 : ¬ (97 : Int) ≤ (d.toNat : Int) := by omega
          have t2 : (d.toNat : Int) ≤ 122 := by omega
          have t3 : (65 : Int) ≤ (d.toNat : Int) := by omega
          have t4 : ¬ (d.toNat : Int) ≤ 90 := by omega
          have t5 : ((d.toNat : Int) == 95) = true := by rw [beq_iff_eq]; omega
          have t6 : ¬ (d.toNat : Int) < 48 := by omega
          have t7 : (57 : Int) < (d.toNat : Int) := by omega
          have hG := Lib.hid (hgood.out (by rw [hA.out, let_t (by omega)]; rfl))
          go_wp2_with (fail)
          exact ⟨⟨k + 1, by omega, by simp, Lib.hid (fun _ => hG.out), by first | rfl | trivial⟩, by simp [intOf]; omega⟩
        ·
          have t1 : ¬ (97 : Int) ≤ (d.toNat : Int) := by omega
          have t2 : (d.toNat : Int) ≤ 122 := by omega
          have t3 : (65 : Int) ≤ (d.toNat : Int) := by omega
          have t4 : ¬ (d.toNat : Int) ≤ 90 := by omega
          have t5 : ((d.toNat : Int) == 95) = false := by rw [beq_eq_false_iff_ne]; omega
          have t6 : ¬ (d.toNat : Int) < 48 := by omega
          have t7 : (57 : Int) < (d.toNat : Int) := by omega
          have hF := Lib.hid (hbad.out (by rw [hA.out, let_f (by omega), dig_f (by omega)]; cases decide (0 < k) <;> rfl))
          go_wp2_with (fail)
          exact bodyPost_ret (v := .bool false) (by simp [results, Try.results38, go_sem]; try first | rfl | assumption | omega) rfl ⟨by rw [hF.out], rfl⟩
        ·
          have t1 : (97 : Int) ≤ (d.toNat : Int) := by omega
          have t2 : (d.toNat : Int) ≤ 122 := by omega
          have t3 : (65 : Int) ≤ (d.toNat : Int) := by omega
          have t4 : ¬ (d.toNat : Int) ≤ 90 := by omega
          have t5 : ((d.toNat : Int) == 95) = false := by rw [beq_eq_false_iff_ne]; omega
          have t6 : ¬ (d.toNat : Int) < 48 := by omega
          have t7 : (57 : Int) < (d.toNat : Int) := by omega
          have hG := Lib.hid (hgood.out (by rw [hA.out, let_t (by omega)]; rfl))
          go_wp2_with (fail)
          exact ⟨⟨k + 1, by omega, by simp, Lib.hid (fun _ => hG.out), by first | rfl | trivial⟩, by simp [intOf]; omega⟩
        ·
          have t1 : (97 : Int) ≤ (d.toNat : Int) := by omega
          have t2 : ¬ (d.toNat : Int) ≤ 122 := by omega
          have t3 : (65 : Int) ≤ (d.toNat : Int) := by omega
          have t4 : ¬ (d.toNat : Int) ≤ 90 := by omega
          have t5 : ((d.toNat : Int) == 95) = false := by rw [beq_eq_false_iff_ne]; omega
          have t6 : ¬ (d.toNat : Int) < 48 := by omega
          have t7 : (57 : Int) < (d.toNat : Int) := by omega
          have hF := Lib.hid (hbad.out (by rw [hA.out, let_f (by omega), dig_f (by omega)]; cases decide (0 < k) <;> rfl))
          go_wp2_with (fail)
          exact bodyPost_ret (v := .bool false) (by simp [results, Try.results38, go_sem]; try first | rfl | assumption | omega) rfl ⟨by rw [hF.out], rfl⟩
    · obtain rfl : k = s.size := by omega
      have hkI : ¬ (s.size : Int) < (s.size : Int) := by omega
      have hT : q = true := by rw [HK.out (by omega), List.drop_eq_nil_of_le (by rw [dlen]; exact Nat.le_refl _)]; rfl
      subst hT
      go_wp2_with (fail)
      exact bodyPost_ret (v := .bool true) (by simp [results, Try.results38, go_sem]; try first | rfl | assumption | omega) rfl ⟨rfl, rfl⟩
end Go.Proofs.Ytoaabfdilhbajaa
