/- Layer 7: where a word ends. -/
import Derived.Test.YtoaabfdilhbajaaXc
namespace Go.Proofs.Ytoaabfdilhbajaa
open Go.RowKit Go.Shelf

attribute [local go_sem] Oper.semAt_some

theorem let_dig (c : UInt8) (h : letB c = true) : digB c = false := by
  apply dig_f
  unfold letB at h
  simp only [Bool.or_eq_true, Bool.and_eq_true, decide_eq_true_eq] at h
  omega
theorem name_one (c : UInt8) : nameL [c] = letB c := by
  unfold nameL
  cases h : letB c
  · cases digB c <;> simp [h]
  · simp [h, let_dig c h]
theorem name_two (d : UInt8) : nameL [95, d] = (letB d || digB d) := by
  have h1 : letB 95 = true := by decide
  have h2 : digB 95 = false := by decide
  simp [nameL, h1, h2]
theorem ext_one (s : ByteArray) (k : Nat) (hk : k < s.size) : (s.extract k (k + 1)).data.toList = [s[k]] := by
  have hkl : k < s.data.toList.length := by rw [dlen]; exact hk
  rw [ByteArray.data_extract, Array.toList_extract]
  simp only [List.extract]
  rw [show k + 1 - k = 1 by omega, List.drop_eq_getElem_cons hkl]
  rfl
theorem ext_size (s : ByteArray) (k : Nat) (hk : k < s.size) : (s.extract k (k + 1)).size = 1 := by
  rw [← dlen, ext_one s k hk]; rfl
theorem name_ext (s : ByteArray) (k : Nat) (hk : k < s.size) : nameB (s.extract k (k + 1)) = letB s[k] := by
  unfold nameB
  rw [ext_one s k hk, name_one]
theorem name_ext2 (s : ByteArray) (k : Nat) (hk : k < s.size) : nameB (ByteArray.mk #[95] ++ s.extract k (k + 1)) = (letB s[k] || digB s[k]) := by
  unfold nameB
  rw [← name_two, ByteArray.data_append, Array.toList_append, ext_one s k hk]
  rfl
/-- How far letters and digits go. -/
def runL (l : List UInt8) : Nat := (l.takeWhile (fun d => letB d || digB d)).length
theorem runL_cons (c : UInt8) (r : List UInt8) : runL (c :: r) = if letB c || digB c then 1 + runL r else 0 := by
  unfold runL
  rw [List.takeWhile_cons]
  split <;> simp; omega
theorem runL_le (l : List UInt8) : runL l ≤ l.length := (List.takeWhile_sublist (p := fun d => letB d || digB d) (l := l)).length_le

set_option maxRecDepth 100000 in
set_option maxHeartbeats 1000000 in
theorem wordEnd_any (s : ByteArray) (k0 : Nat) (w : World) (hk0 : k0 < s.size) (hs : s.size ≤ 1099511627776) :
    Calls Try.prog 41 #[.string s, .int .i64 (k0 : Int)] w fun e w' => e = .returned (.int .i64 ((k0 + wrdL (s.data.toList.drop k0) : Nat) : Int)) ∧ w' = w := by
  obtain ⟨q, hq⟩ : ∃ q, Hid (k0 + wrdL (s.data.toList.drop k0) = q) := ⟨_, Lib.hid rfl⟩
  rw [hq.out]
  have hkl : k0 < s.data.toList.length := by rw [dlen]; exact hk0
  obtain ⟨c, hc⟩ : ∃ c, Hid (s[k0] = c) := ⟨_, Lib.hid rfl⟩
  have hdr : Hid (s.data.toList.drop k0 = c :: s.data.toList.drop (k0 + 1)) := Lib.hid (by
    have h1 : s.data.toList[k0] = c := hc.out
    rw [List.drop_eq_getElem_cons hkl, h1])
  have Hn := Lib.hid (isName_any (s.extract k0 (k0 + 1)) w)
  rw [name_ext s k0 hk0, hc.out] at Hn
  obtain ⟨lb, hlb⟩ : ∃ v, Hid (letB c = v) := ⟨_, Lib.hid rfl⟩
  rw [hlb.out] at Hn
  have hkI : (0 : Int) ≤ (k0 : Int) := by omega
  have hkI1 : (k0 : Int) < (s.size : Int) := by omega
  have hkI2 : (k0 : Int) + 1 ≤ (s.size : Int) := by omega
  have hkI3 : (k0 : Int) ≤ (k0 : Int) + 1 := by omega
  cases lb
  · have HF : Hid (q = k0 + 1) := Lib.hid (by rw [← hq.out, hdr.out, wrdL, hlb.out]; rfl)
    go_enter Try.func41, Try.ntmps41
    go_wp2_with (go_at_call 34; (with_reducible refine Hn.out.mono ?_); rintro e w1 ⟨rfl, hw1⟩; subst w1)
    exact bodyPost_ret (v := .int .i64 ((k0 : Int) + 1)) (by simp [results, Try.results41, go_sem]; try first | rfl | assumption | omega) rfl ⟨by rw [HF.out]; rfl, rfl⟩
  · have HQ : Hid (q = k0 + 1 + runL (s.data.toList.drop (k0 + 1))) := Lib.hid (by rw [← hq.out, hdr.out, wrdL, hlb.out]; unfold runL; simp; omega)
    go_enter Try.func41, Try.ntmps41
    go_wp2_with (go_at_call 34; (with_reducible refine Hn.out.mono ?_); rintro e w1 ⟨rfl, hw1⟩; subst w1)
    go_loopw [5] (fun iv wr => ∃ k : Nat, k ≤ s.size ∧ iv = .int .i64 (k : Int) ∧ k + runL (s.data.toList.drop k) = q ∧ wr = w) (fun iv _ => s.size - (intOf iv).toNat)
    case atStart => exact ⟨k0 + 1, by omega, rfl, HQ.out.symm, rfl⟩
    case round =>
      obtain ⟨k, hk, rfl, hqk, hwr⟩ := hrel
      subst wr
      have HK := Lib.hid hqk
      clear hqk hkI hkI1 hkI2 hkI3
      by_cases hlt : k < s.size
      · have hkI : (k : Int) < (s.size : Int) := by omega
        have hkI0 : (0 : Int) ≤ (k : Int) := by omega
        have hkI1 : (k : Int) + 1 ≤ (s.size : Int) := by omega
        have hkI3 : (k : Int) ≤ (k : Int) + 1 := by omega
        have hkl : k < s.data.toList.length := by rw [dlen]; exact hlt
        have hdr : Hid (s.data.toList.drop k = s[k] :: s.data.toList.drop (k + 1)) := Lib.hid (by
          have h1 : s.data.toList[k] = s[k] := rfl
          rw [List.drop_eq_getElem_cons hkl, h1])
        have Hn2 := Lib.hid (isName_any (ByteArray.mk #[95] ++ s.extract k (k + 1)) w)
        rw [name_ext2 s k hlt] at Hn2
        obtain ⟨v, hv⟩ : ∃ v, Hid ((letB s[k] || digB s[k]) = v) := ⟨_, Lib.hid rfl⟩
        rw [hv.out] at Hn2
        have hes := ext_size s k hlt
        cases v
        · have HF : Hid (q = k) := Lib.hid (by rw [← HK.out, hdr.out, runL_cons, hv.out]; rfl)
          go_wp2_with (go_at_call 34; (with_reducible refine Hn2.out.mono ?_); rintro e w1 ⟨rfl, hw1⟩; subst w1)
          exact bodyPost_ret (v := .int .i64 (k : Int)) (by simp [results, Try.results41, go_sem]; try first | rfl | assumption | omega) rfl ⟨by rw [HF.out], rfl⟩
        · have HN : Hid (k + 1 + runL (s.data.toList.drop (k + 1)) = q) := Lib.hid (by rw [← HK.out, hdr.out, runL_cons, hv.out]; simp; omega)
          go_wp2_with (go_at_call 34; (with_reducible refine Hn2.out.mono ?_); rintro e w1 ⟨rfl, hw1⟩; subst w1)
          exact ⟨⟨k + 1, by omega, by simp, HN.out, by first | rfl | trivial⟩, by simp [intOf]; omega⟩
      · obtain rfl : k = s.size := by omega
        have hkI : ¬ (s.size : Int) < (s.size : Int) := by omega
        have HF : Hid (q = s.size) := Lib.hid (by rw [← HK.out, List.drop_eq_nil_of_le (by rw [dlen]; exact Nat.le_refl _)]; rfl)
        go_wp2_with (fail)
        exact bodyPost_ret (v := .int .i64 (s.size : Int)) (by simp [results, Try.results41, go_sem]; try first | rfl | assumption | omega) rfl ⟨by rw [HF.out], rfl⟩
end Go.Proofs.Ytoaabfdilhbajaa
