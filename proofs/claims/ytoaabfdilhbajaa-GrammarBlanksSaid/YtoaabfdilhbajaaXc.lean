/- Layer 7: blanks and words in a text. -/
import Derived.Test.YtoaabfdilhbajaaXb
import Derived.Test.YtoaabfdilhbajaaShelf
namespace Go.Proofs.Ytoaabfdilhbajaa
open Go.RowKit Go.Shelf

attribute [local go_sem] Oper.semAt_some

/-- Where the line ends. -/
def lnE (l : List UInt8) : Nat := if 0 ≤ Lib.indexByte l 10 then (Lib.indexByte l 10).toNat else l.length
theorem lnE_cons (c : UInt8) (r : List UInt8) : lnE (c :: r) = if c = 10 then 0 else 1 + lnE r := by
  have hg := Lib.indexByte_ge r 10
  unfold lnE
  rw [Lib.indexByte]
  by_cases hc : c = 10
  · subst hc; simp
  · have hcb : (c == 10) = false := by simpa using hc
    rw [hcb, if_neg hc]
    simp only [Bool.false_eq_true, if_false]
    by_cases h1 : Lib.indexByte r 10 = -1
    · have h1b : (Lib.indexByte r 10 == -1) = true := by simpa using h1
      rw [h1b, if_pos rfl, h1]; simp; omega
    · have h1b : (Lib.indexByte r 10 == -1) = false := by simpa using h1
      rw [h1b]
      simp only [Bool.false_eq_true, if_false]
      rw [if_pos (by omega), if_pos (by omega)]; omega
theorem blk_lnE : ∀ l : List UInt8, blkL true l = lnE l + blkL false (l.drop (lnE l))
  | [] => by simp [blkL, lnE, Lib.indexByte]
  | c :: r => by
    rw [lnE_cons]
    by_cases hc : c = 10
    · subst hc
      rw [if_pos rfl]
      simp [blkL]
    · rw [if_neg hc, Nat.add_comm 1 (lnE r), List.drop_succ_cons, blkL, if_neg (by intro h; apply hc; apply UInt8.toNat_inj.1; exact h), blk_lnE r]
      omega
theorem lnE_le : ∀ l : List UInt8, lnE l ≤ l.length
  | [] => by simp [lnE, Lib.indexByte]
  | c :: r => by
    rw [lnE_cons]
    have := lnE_le r
    split <;> simp <;> omega
theorem blk_hash (r : List UInt8) : blkL false (35 :: r) = lnE (35 :: r) + blkL false ((35 :: r).drop (lnE (35 :: r))) := by
  rw [← blk_lnE]
  rw [blkL, blkL, if_neg (by decide), if_pos (by decide), if_neg (by decide)]
theorem ext_drop (s : ByteArray) (k : Nat) : (s.extract k s.size).data.toList = s.data.toList.drop k := by
  rw [ByteArray.data_extract, Array.toList_extract]
  simp only [List.extract]
  rw [List.take_of_length_le (by rw [List.length_drop, dlen]; omega)]

set_option maxRecDepth 100000 in
set_option maxHeartbeats 1000000 in
theorem lineEnd_any (s : ByteArray) (k : Nat) (w : World) (hk : k ≤ s.size) (hs : s.size ≤ 1099511627776) :
    Calls Try.prog 54 #[.string s, .int .i64 (k : Int)] w fun e w' => e = .returned (.int .i64 ((k + lnE (s.data.toList.drop k) : Nat) : Int)) ∧ w' = w := by
  have hc := Try.strings_IndexByte (s.extract k s.size) 10 w
  rw [ext_drop] at hc
  have h10 : ((10 : Int).toNat.toUInt8) = 10 := rfl
  rw [h10] at hc
  have hg := Lib.indexByte_ge (s.data.toList.drop k) 10
  have hl := lnE_le (s.data.toList.drop k)
  rw [List.length_drop, dlen] at hl
  obtain ⟨q, hq⟩ : ∃ q, Hid (lnE (s.data.toList.drop k) = q) := ⟨_, Lib.hid rfl⟩
  obtain ⟨j, hj⟩ : ∃ q, Hid (Lib.indexByte (s.data.toList.drop k) 10 = q) := ⟨_, Lib.hid rfl⟩
  rw [hq.out] at hl ⊢
  rw [hj.out] at hc hg
  have HC := Lib.hid hc
  clear hc h10
  have hkI : (0 : Int) ≤ (k : Int) := by omega
  have hkI2 : (k : Int) ≤ (s.size : Int) := by omega
  by_cases hj0 : 0 ≤ j
  · have hqj : Hid (j = (q : Int)) := Lib.hid (by
      have h1 := hq.out
      unfold lnE at h1
      rw [hj.out, if_pos hj0] at h1
      omega)
    have hjq : (k : Int) + j ≤ 1099511627776 := by have := hqj.out; omega
    go_enter Try.func54, Try.ntmps54
    go_wp2_with (go_at_call 56; (with_reducible refine HC.out.mono ?_); rintro e w1 ⟨rfl, hw1⟩; subst w1)
    exact bodyPost_ret (v := .int .i64 ((k : Int) + j)) (by simp [results, Try.results54, go_sem]; try first | rfl | assumption | omega) rfl ⟨by rw [hqj.out]; rfl, rfl⟩
  · have hqs : Hid (k + q = s.size) := Lib.hid (by
      have h1 := hq.out
      unfold lnE at h1
      rw [hj.out, if_neg hj0, List.length_drop, dlen] at h1
      omega)
    go_enter Try.func54, Try.ntmps54
    go_wp2_with (go_at_call 56; (with_reducible refine HC.out.mono ?_); rintro e w1 ⟨rfl, hw1⟩; subst w1)
    exact bodyPost_ret (v := .int .i64 (s.size : Int)) (by simp [results, Try.results54, go_sem]; try first | rfl | assumption | omega) rfl ⟨by rw [hqs.out], rfl⟩

set_option maxRecDepth 100000 in
set_option maxHeartbeats 1000000 in
theorem blank_any (s : ByteArray) (k0 : Nat) (w : World) (hk0 : k0 ≤ s.size) (hs : s.size ≤ 1099511627776) :
    Calls Try.prog 40 #[.string s, .int .i64 (k0 : Int)] w fun e w' => e = .returned (.int .i64 ((k0 + blkL false (s.data.toList.drop k0) : Nat) : Int)) ∧ w' = w := by
  obtain ⟨q, hq⟩ : ∃ q, Hid (k0 + blkL false (s.data.toList.drop k0) = q) := ⟨_, Lib.hid rfl⟩
  rw [hq.out]
  go_enter Try.func40, Try.ntmps40
  go_wp2_with (fail)
  go_loopw [1] (fun iv wr => ∃ k : Nat, k ≤ s.size ∧ iv = .int .i64 (k : Int) ∧ k + blkL false (s.data.toList.drop k) = q ∧ wr = w) (fun iv _ => s.size - (intOf iv).toNat)
  case atStart => exact ⟨k0, hk0, rfl, hq.out, rfl⟩
  case round =>
    obtain ⟨k, hk, rfl, hqk, hwr⟩ := hrel
    subst wr
    have HK := Lib.hid hqk
    clear hqk
    by_cases hlt : k < s.size
    · have hkI : (k : Int) < (s.size : Int) := by omega
      have hkI0 : (0 : Int) ≤ (k : Int) := by omega
      have hkl : k < s.data.toList.length := by rw [dlen]; exact hlt
      obtain ⟨d, hd⟩ : ∃ d, Hid (s[k] = d) := ⟨_, Lib.hid rfl⟩
      have hdr : Hid (s.data.toList.drop k = d :: s.data.toList.drop (k + 1)) := Lib.hid (by
        have h1 : s.data.toList[k] = d := hd.out
        rw [List.drop_eq_getElem_cons hkl, h1])
      obtain ⟨u, hu⟩ : ∃ u : Nat, Hid (d.toNat = u) := ⟨_, Lib.hid rfl⟩
      have hul : u < 256 := by rw [← hu.out]; exact d.toNat_lt
      have hsk : s[k].toNat = u := by rw [hd.out]; exact hu.out
      by_cases hb : u = 32 ∨ u = 9 ∨ u = 10 ∨ u = 13
      · have HN : Hid (k + 1 + blkL false (s.data.toList.drop (k + 1)) = q) := Lib.hid (by
          rw [← HK.out, hdr.out, blkL, if_pos (by rw [hu.out]; exact hb)]; omega)
        rcases hb with rfl | rfl | rfl | rfl
        all_goals
          go_wp2_with (fail)
          exact ⟨⟨k + 1, by omega, by simp, HN.out, by first | rfl | trivial⟩, by simp [intOf]; omega⟩
      · by_cases hh : u = 35
        · subst hh
          have hd35 : d = 35 := UInt8.toNat_inj.1 hu.out
          have hle := lnE_le (s.data.toList.drop k)
          rw [List.length_drop, dlen] at hle
          have hps : 0 < lnE (s.data.toList.drop k) := by rw [hdr.out, hd35, lnE_cons, if_neg (by decide)]; omega
          have HN : Hid (k + lnE (s.data.toList.drop k) + blkL false (s.data.toList.drop (k + lnE (s.data.toList.drop k))) = q) := Lib.hid (by
            have h1 := blk_hash (s.data.toList.drop (k + 1))
            rw [← hd35, ← hdr.out, List.drop_drop] at h1
            rw [← HK.out]
            omega)
          have Hl := Lib.hid (lineEnd_any s k w hk hs)
          generalize lnE (s.data.toList.drop k) = j at hle hps HN Hl
          go_wp2_with (go_at_call 54; (with_reducible refine Hl.out.mono ?_); rintro e w1 ⟨rfl, hw1⟩; subst w1)
          exact ⟨⟨k + j, by omega, by simp, HN.out, by first | rfl | trivial⟩, by simp [intOf]; omega⟩
        · have HF : Hid (q = k) := Lib.hid (by
            rw [← HK.out, hdr.out, blkL, if_neg (by rw [hu.out]; exact hb), if_neg (by rw [hu.out]; exact hh)]; rfl)
          have n1 : ¬ (u : Int) = 32 := by omega
          have n2 : ¬ (u : Int) = 9 := by omega
          have n3 : ¬ (u : Int) = 10 := by omega
          have n4 : ¬ (u : Int) = 13 := by omega
          have n5 : ¬ (u : Int) = 35 := by omega
          go_wp2_with (fail)
          exact bodyPost_ret (v := .int .i64 (k : Int)) (by simp [results, Try.results40, go_sem]; try first | rfl | assumption | omega) rfl ⟨by rw [HF.out], rfl⟩
    · obtain rfl : k = s.size := by omega
      have hkI : ¬ (s.size : Int) < (s.size : Int) := by omega
      have HF : Hid (q = s.size) := Lib.hid (by rw [← HK.out, List.drop_eq_nil_of_le (by rw [dlen]; exact Nat.le_refl _)]; rfl)
      go_wp2_with (fail)
      exact bodyPost_ret (v := .int .i64 (s.size : Int)) (by simp [results, Try.results40, go_sem]; try first | rfl | assumption | omega) rfl ⟨by rw [HF.out], rfl⟩
end Go.Proofs.Ytoaabfdilhbajaa
