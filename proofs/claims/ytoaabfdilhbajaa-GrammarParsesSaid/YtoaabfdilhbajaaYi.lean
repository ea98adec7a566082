/- Layer 7: the reference's blanks and words. -/
import Derived.Test.YtoaabfdilhbajaaXj
import Derived.Test.YtoaabfdilhbajaaYd
import Derived.WalkLawsBesides
namespace Go.Proofs.Ytoaabfdilhbajaa
open Go.RowKit Go.Shelf

attribute [local go_sem] Oper.semAt_some

theorem blk_tt (d : UInt8) (r : List UInt8) (h : d.toNat = 35) : blkL false (d :: r) = blkL true (d :: r) := by
  have : d = 35 := UInt8.toNat_inj.1 h
  subst this
  rw [blkL, blkL, if_neg (by decide), if_pos (by decide), if_neg (by decide)]
theorem blk_t10 (d : UInt8) (r : List UInt8) (h : d.toNat = 10) : blkL true (d :: r) = blkL false (d :: r) := by
  rw [blkL, blkL, if_pos h, if_pos (by omega)]
theorem blk_tn (d : UInt8) (r : List UInt8) (h : ¬ d.toNat = 10) : blkL true (d :: r) = 1 + blkL true r := by
  rw [blkL, if_neg h]

set_option maxRecDepth 100000 in
set_option maxHeartbeats 1000000 in
theorem refBlank_any (s : ByteArray) (k0 : Nat) (w : World) (hk0 : k0 ≤ s.size) (hs : s.size ≤ 1099511627776) :
    Calls Try.prog 44 #[.string s, .int .i64 (k0 : Int)] w fun e w' => e = .returned (.int .i64 ((k0 + blkL false (s.data.toList.drop k0) : Nat) : Int)) ∧ w' = w := by
  obtain ⟨q, hq⟩ : ∃ q, Hid (k0 + blkL false (s.data.toList.drop k0) = q) := ⟨_, Lib.hid rfl⟩
  rw [hq.out]
  go_enter Try.func44, Try.ntmps44
  go_wp2_with (fail)
  go_loopw [1] (fun iv wr => ∃ k : Nat, k ≤ s.size ∧ iv = .int .i64 (k : Int) ∧ k + blkL false (s.data.toList.drop k) = q ∧ wr = w) (fun iv _ => s.size - (intOf iv).toNat)
  case atStart => exact ⟨k0, hk0, rfl, hq.out, rfl⟩
  case round =>
    obtain ⟨k, hk, rfl, hqk, hwr⟩ := hrel
    subst wr
    have HK := Lib.hid hqk
    clear hqk
    by_cases hlt : k < s.size
    · have hkI : (k : Int) < (s.size : Int) := by omega
      have hkI0 : (0 : Int) ≤ (k : Int) := by omega
      have hkl : k < s.data.toList.length := by rw [dlen]; exact hlt
      obtain ⟨d, hd⟩ : ∃ d, Hid (s[k] = d) := ⟨_, Lib.hid rfl⟩
      have hdr : Hid (s.data.toList.drop k = d :: s.data.toList.drop (k + 1)) := Lib.hid (by
        have h1 : s.data.toList[k] = d := hd.out
        rw [List.drop_eq_getElem_cons hkl, h1])
      obtain ⟨u, hu⟩ : ∃ u : Nat, Hid (d.toNat = u) := ⟨_, Lib.hid rfl⟩
      have hul : u < 256 := by rw [← hu.out]; exact d.toNat_lt
      have hsk : s[k].toNat = u := by rw [hd.out]; exact hu.out
      by_cases hb : u = 32 ∨ u = 9 ∨ u = 10 ∨ u = 13
      · have HN : Hid (k + 1 + blkL false (s.data.toList.drop (k + 1)) = q) := Lib.hid (by
          rw [← HK.out, hdr.out, blkL, if_pos (by rw [hu.out]; exact hb)]; omega)
        rcases hb with rfl | rfl | rfl | rfl
        all_goals
          go_wp2_with (fail)
          exact ⟨⟨k + 1, by omega, by simp, HN.out, by first | rfl | trivial⟩, by simp [intOf]; omega⟩
      · by_cases hh : u = 35
        · subst hh
          have HT : Hid (k + blkL true (s.data.toList.drop k) = q) := Lib.hid (by rw [← HK.out, hdr.out, blk_tt d _ hu.out])
          have HS := Lib.hid hsk
          go_wp2_with (fail)
          clear hsk hdr hu hul hd hb
          go_loopw [1] (fun iv wr => ∃ j : Nat, k ≤ j ∧ j ≤ s.size ∧ iv = .int .i64 (j : Int) ∧ Hid (j + blkL true (s.data.toList.drop j) = q) ∧ wr = w) (fun iv _ => s.size - (intOf iv).toNat)
          case atStart => exact ⟨k, Nat.le_refl _, hk, rfl, HT, rfl⟩
          case round =>
            obtain ⟨j, hkj, hj, rfl, HJ, hwr⟩ := hrel
            subst wr
            by_cases hjt : j < s.size
            · have hjI : (j : Int) < (s.size : Int) := by omega
              have hjI0 : (0 : Int) ≤ (j : Int) := by omega
              have hjl : j < s.data.toList.length := by rw [dlen]; exact hjt
              obtain ⟨d, hd⟩ : ∃ d, Hid (s[j] = d) := ⟨_, Lib.hid rfl⟩
              have hdr : Hid (s.data.toList.drop j = d :: s.data.toList.drop (j + 1)) := Lib.hid (by
                have h1 : s.data.toList[j] = d := hd.out
                rw [List.drop_eq_getElem_cons hjl, h1])
              obtain ⟨u, hu⟩ : ∃ u : Nat, Hid (d.toNat = u) := ⟨_, Lib.hid rfl⟩
              have hul : u < 256 := by rw [← hu.out]; exact d.toNat_lt
              by_cases hu10 : u = 10
              · have HN : Hid (j + blkL false (s.data.toList.drop j) = q) := Lib.hid (by rw [← HJ.out, hdr.out, blk_t10 d _ (by rw [hu.out]; exact hu10)])
                have hjk : k < j := by
                  rcases Nat.lt_or_ge k j with h | h
                  · exact h
                  · exfalso
                    have e : k = j := by omega
                    subst e
                    have h1 := HS.out
                    rw [hd.out, hu.out] at h1
                    omega
                subst hu10
                have hsj : s[j].toNat = 10 := by rw [hd.out]; exact hu.out
                go_wp2_with (fail)
                exact ⟨⟨j, by omega, rfl, HN.out, by first | rfl | trivial⟩, by simp [intOf]; omega⟩
              · have hsj : s[j].toNat = u := by rw [hd.out]; exact hu.out
                have HN : Hid (j + 1 + blkL true (s.data.toList.drop (j + 1)) = q) := Lib.hid (by rw [← HJ.out, hdr.out, blk_tn d _ (by rw [hu.out]; exact hu10)]; omega)
                have n1 : ¬ (u : Int) = 10 := by omega
                go_wp2_with (fail)
                exact ⟨⟨j + 1, by omega, by omega, by simp, HN, by first | rfl | trivial⟩, by simp [intOf]; omega⟩
            · obtain rfl : j = s.size := by omega
              have hjI : ¬ (s.size : Int) < (s.size : Int) := by omega
              have HN : Hid (s.size + blkL false (s.data.toList.drop s.size) = q) := Lib.hid (by
                have h0 : s.data.toList.drop s.size = [] := List.drop_eq_nil_of_le (by rw [dlen]; exact Nat.le_refl _)
                rw [← HJ.out, h0]; rfl)
              go_wp2_with (fail)
              exact ⟨⟨s.size, by omega, rfl, HN.out, by first | rfl | trivial⟩, by simp [intOf]; omega⟩
        · have HF : Hid (q = k) := Lib.hid (by
            rw [← HK.out, hdr.out, blkL, if_neg (by rw [hu.out]; exact hb), if_neg (by rw [hu.out]; exact hh)]; rfl)
          have n1 : ¬ (u : Int) = 32 := by omega
          have n2 : ¬ (u : Int) = 9 := by omega
          have n3 : ¬ (u : Int) = 10 := by omega
          have n4 : ¬ (u : Int) = 13 := by omega
          have n5 : ¬ (u : Int) = 35 := by omega
          go_wp2_with (fail)
          exact bodyPost_ret (v := .int .i64 (k : Int)) (by simp [results, Try.results44, go_sem]; try first | rfl | assumption | omega) rfl ⟨by rw [HF.out], rfl⟩
    · obtain rfl : k = s.size := by omega
      have hkI : ¬ (s.size : Int) < (s.size : Int) := by omega
      have HF : Hid (q = s.size) := Lib.hid (by rw [← HK.out, List.drop_eq_nil_of_le (by rw [dlen]; exact Nat.le_refl _)]; rfl)
      go_wp2_with (fail)
      exact bodyPost_ret (v := .int .i64 (s.size : Int)) (by simp [results, Try.results44, go_sem]; try first | rfl | assumption | omega) rfl ⟨by rw [HF.out], rfl⟩

theorem name_ext3 (s : ByteArray) (k : Nat) (hk : k < s.size) : nameB (ByteArray.mk #[97] ++ s.extract k (k + 1)) = (letB s[k] || digB s[k]) := by
  unfold nameB
  rw [ByteArray.data_append, Array.toList_append, ext_one s k hk]
  have h1 : letB 97 = true := by decide
  have h2 : digB 97 = false := by decide
  show nameL [97, s[k]] = _
  simp [nameL, h1, h2]
theorem wrd_split (c : UInt8) (r : List UInt8) : wrdL (c :: r) = if letB c then 1 + runL r else 1 := rfl
theorem ext_nil (s : ByteArray) (k : Nat) : s.extract k k = ⟨#[]⟩ := by
  apply ByteArray.ext
  rw [ByteArray.data_extract]
  simp
  omega

set_option maxRecDepth 100000 in
set_option maxHeartbeats 1000000 in
theorem refWord_any (s : ByteArray) (k0 : Nat) (w : World) (hk0 : k0 ≤ s.size) (hs : s.size ≤ 1099511627776) :
    Calls Try.prog 45 #[.string s, .int .i64 (k0 : Int)] w fun e w' => e = .returned (.string (s.extract k0 (k0 + wrdL (s.data.toList.drop k0)))) ∧ w' = w := by
  have hkI : (0 : Int) ≤ (k0 : Int) := by omega
  by_cases hlt : k0 < s.size
  case neg =>
    have HX : Hid (s.extract k0 (k0 + wrdL (s.data.toList.drop k0)) = ⟨#[]⟩) := Lib.hid (by
      rw [List.drop_eq_nil_of_le (by rw [dlen]; omega), wrdL, Nat.add_zero, ext_nil])
    rw [HX.out]
    have hI : (s.size : Int) ≤ (k0 : Int) := by omega
    go_enter Try.func45, Try.ntmps45
    go_wp2_with (fail)
    exact bodyPost_ret (v := .string ⟨#[]⟩) (by simp [results, Try.results45, go_sem]; try first | rfl | assumption | omega) rfl ⟨rfl, rfl⟩
  case pos =>
  have hI : ¬ (s.size : Int) ≤ (k0 : Int) := by omega
  have hkl : k0 < s.data.toList.length := by rw [dlen]; exact hlt
  obtain ⟨c, hc⟩ : ∃ c, Hid (s[k0] = c) := ⟨_, Lib.hid rfl⟩
  have hdr : Hid (s.data.toList.drop k0 = c :: s.data.toList.drop (k0 + 1)) := Lib.hid (by
    have h1 : s.data.toList[k0] = c := hc.out
    rw [List.drop_eq_getElem_cons hkl, h1])
  have Hn1 := Lib.hid (refIsName_any (s.extract k0 (k0 + 1)) w)
  rw [name_ext s k0 hlt, hc.out] at Hn1
  obtain ⟨lb, hlb⟩ : ∃ v, Hid (letB c = v) := ⟨_, Lib.hid rfl⟩
  rw [hlb.out] at Hn1
  obtain ⟨q, hq⟩ : ∃ q, Hid (wrdL (s.data.toList.drop k0) = q) := ⟨_, Lib.hid rfl⟩
  rw [hq.out]
  have HQ : Hid (q = if lb then 1 + runL (s.data.toList.drop (k0 + 1)) else 1) := Lib.hid (by rw [← hq.out, hdr.out, wrd_split, hlb.out])
  go_enter Try.func45, Try.ntmps45
  go_wp2_with (fail)
  go_loopw [5] (fun iv wr => ∃ n : Nat, k0 + n ≤ s.size ∧ iv = .int .i64 (n : Int) ∧ Hid (0 < n → lb = true ∧ n + runL (s.data.toList.drop (k0 + n)) = q) ∧ wr = w) (fun iv _ => s.size - (intOf iv).toNat)
  case atStart => exact ⟨0, by omega, rfl, Lib.hid (fun h => absurd h (by omega)), rfl⟩
  case round =>
    obtain ⟨n, hn, rfl, HR, hwr⟩ := hrel
    subst wr
    have hnI : (0 : Int) ≤ (n : Int) := by omega
    by_cases hnt : k0 + n < s.size
    · have hjI : (k0 : Int) + (n : Int) < (s.size : Int) := by omega
      have hjI1 : (k0 : Int) + (n : Int) + 1 ≤ (s.size : Int) := by omega
      have hjI3 : (k0 : Int) + (n : Int) ≤ (k0 : Int) + (n : Int) + 1 := by omega
      have hjl : k0 + n < s.data.toList.length := by rw [dlen]; exact hnt
      have hdr2 : Hid (s.data.toList.drop (k0 + n) = s[k0 + n] :: s.data.toList.drop (k0 + n + 1)) := Lib.hid (by
        have h1 : s.data.toList[k0 + n] = s[k0 + n] := rfl
        rw [List.drop_eq_getElem_cons hjl, h1])
      have Hn2 := Lib.hid (refIsName_any (ByteArray.mk #[97] ++ s.extract (k0 + n) (k0 + n + 1)) w)
      rw [name_ext3 s (k0 + n) hnt] at Hn2
      obtain ⟨v, hv⟩ : ∃ v, Hid ((letB s[k0 + n] || digB s[k0 + n]) = v) := ⟨_, Lib.hid rfl⟩
      rw [hv.out] at Hn2
      have hes := ext_size s (k0 + n) hnt
      by_cases hn0 : n = 0
      · have hc2 : s[k0 + n] = c := by
          have h1 := hc.out
          subst hn0
          exact h1
        have hvv : v = (lb || digB c) := by rw [← hv.out, hc2, hlb.out]
        have Hvv := Lib.hid hvv
        have HN0 := Lib.hid hn0
        have hnp : ¬ (0 : Int) < (n : Int) := by omega
        have hn1 : (n : Int) < 1 := by omega
        have HE : Hid (s.extract k0 ((k0 : Int) + max (n : Int) 1).toNat = s.extract k0 (k0 + 1)) := Lib.hid (by rw [show ((k0 : Int) + max (n : Int) 1).toNat = k0 + 1 by omega])
        clear hvv hc2 HR
        cases lb
        · have HF : Hid (q = 1) := Lib.hid (by rw [HQ.out]; rfl)
          cases v
          · clear hn0
            go_wp2_with (go_at_call 38; (with_reducible refine Hn2.out.mono ?_); rintro e w1 ⟨rfl, hw1⟩; subst w1)
            exact bodyPost_ret (v := .string (s.extract k0 (k0 + 1))) (by simp [results, Try.results45, go_sem]; try first | exact HE.out | rfl | assumption | omega) rfl ⟨by rw [HF.out], rfl⟩
          · clear hn0
            go_wp2_with (fail)
            (with_reducible refine Hn2.out.mono ?_); rintro e w1 ⟨rfl, hw1⟩; subst w1
            go_wp2_with (fail)
            (with_reducible refine Hn1.out.mono ?_); rintro e w1 ⟨rfl, hw1⟩; subst w1
            go_wp2_with (fail)
            exact bodyPost_ret (v := .string (s.extract k0 (k0 + 1))) (by simp [results, Try.results45, go_sem]; try first | exact HE.out | rfl | assumption | omega) rfl ⟨by rw [HF.out], rfl⟩
        · have hvt : v = true := Hvv.out
          subst hvt
          clear hn0
          have HN : Hid (0 < n + 1 → true = true ∧ n + 1 + runL (s.data.toList.drop (k0 + (n + 1))) = q) := Lib.hid (fun _ => ⟨rfl, by rw [HQ.out, HN0.out]; simp⟩)
          go_wp2_with (fail)
          (with_reducible refine Hn2.out.mono ?_); rintro e w1 ⟨rfl, hw1⟩; subst w1
          go_wp2_with (fail)
          (with_reducible refine Hn1.out.mono ?_); rintro e w1 ⟨rfl, hw1⟩; subst w1
          go_wp2_with (fail)
          exact ⟨⟨n + 1, by omega, by have := HN0.out; simp; omega, HN, by first | rfl | trivial⟩, by simp [intOf]; omega⟩
      · have hnp : (0 : Int) < (n : Int) := by omega
        have hn1 : ¬ (n : Int) < 1 := by omega
        obtain ⟨hlt1, hr⟩ := HR.out (by omega)
        have Hlt1 := Lib.hid hlt1
        have Hr := Lib.hid hr
        have HE : Hid (s.extract k0 ((k0 : Int) + max (n : Int) 1).toNat = s.extract k0 (k0 + n)) := Lib.hid (by rw [show ((k0 : Int) + max (n : Int) 1).toNat = k0 + n by omega])
        clear hlt1 hr HR
        cases v
        · have HF : Hid (q = n) := Lib.hid (by rw [← Hr.out, hdr2.out, runL_cons, hv.out]; rfl)
          go_wp2_with (go_at_call 38; (with_reducible refine Hn2.out.mono ?_); rintro e w1 ⟨rfl, hw1⟩; subst w1)
          exact bodyPost_ret (v := .string (s.extract k0 (k0 + n))) (by simp [results, Try.results45, go_sem]; try first | exact HE.out | rfl | assumption | omega) rfl ⟨by rw [HF.out], rfl⟩
        · have HN : Hid (0 < n + 1 → lb = true ∧ n + 1 + runL (s.data.toList.drop (k0 + (n + 1))) = q) := Lib.hid (fun _ => ⟨Hlt1.out, by rw [← Hr.out, hdr2.out, runL_cons, hv.out]; simp only [if_true]; rw [show k0 + (n + 1) = k0 + n + 1 by omega]; omega⟩)
          go_wp2_with (go_at_call 38; (with_reducible refine Hn2.out.mono ?_); rintro e w1 ⟨rfl, hw1⟩; subst w1)
          exact ⟨⟨n + 1, by omega, by simp, HN, by first | rfl | trivial⟩, by simp [intOf]; omega⟩
    · have hjI : ¬ (k0 : Int) + (n : Int) < (s.size : Int) := by omega
      have hnp : (0 : Int) < (n : Int) := by omega
      have hn1 : ¬ (n : Int) < 1 := by omega
      have hsz : (k0 : Int) + (n : Int) ≤ (s.size : Int) := by omega
      have HF : Hid (q = n) := Lib.hid (by
        rw [← (HR.out (by omega)).2, List.drop_eq_nil_of_le (by rw [dlen]; omega)]; rfl)
      have HE : Hid (s.extract k0 ((k0 : Int) + max (n : Int) 1).toNat = s.extract k0 (k0 + n)) := Lib.hid (by rw [show ((k0 : Int) + max (n : Int) 1).toNat = k0 + n by omega])
      clear HR
      go_wp2_with (fail)
      exact bodyPost_ret (v := .string (s.extract k0 (k0 + n))) (by simp [results, Try.results45, go_sem]; try first | exact HE.out | rfl | assumption | omega) rfl ⟨by rw [HF.out], rfl⟩
end Go.Proofs.Ytoaabfdilhbajaa
