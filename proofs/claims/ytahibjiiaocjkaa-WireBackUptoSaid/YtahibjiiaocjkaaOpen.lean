/- Open of both, Seal of the reference. -/
import Derived.Test.YtahibjiiaocjkaaAppend
import Derived.IntWalk
namespace Go.Proofs.Ytahibjiiaocjkaa
open Go.RowKit

/-- What Open answers: the error's number; how many bytes; what was sealed. -/
def openE (xs : List UInt8) : Nat :=
  if xs.length < 4 then 10 else
  if hiV (xs.take 4) > 2147483647 then 11 else
  if xs.length < hiV (xs.take 4) + 8 then 10 else
  if (crc (xs.take (hiV (xs.take 4) + 4))).toNat ≠ loV ((xs.drop (hiV (xs.take 4) + 4)).take 4) then 12 else 0
def openV (xs : List UInt8) : List UInt8 := if openE xs = 0 then (xs.drop 4).take (hiV (xs.take 4)) else []
def openN (xs : List UInt8) : Nat := if openE xs = 0 then hiV (xs.take 4) + 8 else 0

theorem over_all (Z ys : List Value) (h : Z.length = ys.length) : over Z 0 ys = ys := by
  unfold over
  rw [List.take_zero, List.nil_append, List.drop_of_length_le (by omega), List.append_nil]

theorem Bytes.drewN {w : World} {a : Option Addr} {cap : Nat} {xs : List UInt8} (h : Bytes w a cap xs) (n : Nat) : Bytes (w.drewN n) a cap xs :=
  ⟨h.le, h.max, h.at_, fun b off e i hi => by simpa using h.cell b off e i hi, h.nil_⟩

/-- A part of a slice reads as the part. -/
theorem Bytes.part {w : World} {a a' : Option Addr} {cap lo hi : Nat} {xs : List UInt8} (h : Bytes w a cap xs) (h1 : lo ≤ hi) (h2 : hi ≤ xs.length) (ha : ∀ b off, a = some ⟨b, off, none⟩ → lo < hi → a' = some ⟨b, off + lo, none⟩) (hn : a = none → a' = none) (hs : a' = none → a = none) :
    Bytes w a' (cap - lo) ((xs.drop lo).take (hi - lo)) := by
  have hl : ((xs.drop lo).take (hi - lo)).length = hi - lo := by simp; omega
  have hle := h.le
  have hmax := h.max
  refine ⟨by rw [hl]; omega, by omega, ?_, ?_, fun e => by have := h.nil_ (hs e); omega⟩
  · intro i hi'
    rw [hl] at hi'
    obtain ⟨b, off, e⟩ := h.at_ lo (by omega)
    exact ⟨b, off + lo, ha b off e (by omega)⟩
  · intro b off e i hi'
    rw [hl] at hi'
    obtain ⟨b', off', e'⟩ := h.at_ lo (by omega)
    have := ha b' off' e' (by omega)
    rw [e] at this
    simp only [Option.some.injEq, Addr.mk.injEq] at this
    obtain ⟨rfl, rfl, -⟩ := this
    have hc := h.cell b off' e' (lo + i) (by omega)
    rw [← Nat.add_assoc] at hc
    rw [hc]
    simp

set_option maxRecDepth 100000 in
set_option maxHeartbeats 400000 in
theorem wopen_short (a : Option Addr) (n cap : Nat) (xs : List UInt8) (w : World) (hb : Bytes w a cap xs) (hn : n = xs.length) (h4 : n < 4) :
    Calls Try.prog 23 #[.slice a n cap] w fun e w' => e = .returned (.tuple #[.slice none 0 0, .int .i64 0, .int .i64 10]) ∧ w = w' := by
  clear hn
  go_enter Try.func23, Try.ntmps23
  go_wp2
  go_ret3
  exact ⟨rfl, rfl⟩


section
variable (b off n cap L : Nat) (xs : List UInt8) (w : World) (hb : Bytes w (some ⟨b, off, none⟩) cap xs) (hn : n = xs.length) (h4 : ¬ n < 4) (hL : L = hiV (xs.take 4))
include hb hn h4 hL

theorem wopen_pre : Bytes w (some ⟨b, off, none⟩) cap (xs.take 4) ∧ Lib.hid (p := 4 = (xs.take 4).length) (by simp; omega) = Lib.hid (p := 4 = (xs.take 4).length) (by simp; omega) ∧ L < 4294967296 := by
  refine ⟨?_, rfl, ?_⟩
  · have := hb.part (lo := 0) (hi := 4) (a' := some ⟨b, off, none⟩) (by omega) (by omega) (fun b' off' e _ => by cases e; rfl) (fun e => by cases e) (fun e => by cases e)
    simpa using this
  · have := hiV_lt (xs.take 4)
    rw [List.length_take_of_le (by omega)] at this
    omega

set_option maxRecDepth 100000 in
set_option maxHeartbeats 400000 in
theorem wopen_form (h1 : 2147483647 < L) :
    Calls Try.prog 23 #[.slice (some ⟨b, off, none⟩) n cap] w fun e w' => e = .returned (.tuple #[.slice none 0 0, .int .i64 0, .int .i64 11]) ∧ w = w' := by
  obtain ⟨hb4, -, hL2⟩ := wopen_pre b off n cap L xs w hb hn h4 hL
  have Hn := Lib.hid hn
  have Hl4 := Lib.hid (show 4 = (xs.take 4).length by simp; omega)
  have hle : n ≤ cap := by have := hb.le; omega
  have HL := Lib.hid hL
  clear hn hL
  go_enter Try.func23, Try.ntmps23
  go_wp2_with (go_at_call 43; (with_reducible refine (high_n (some ⟨b, off, none⟩) 4 cap L (xs.take 4) w hb4 (by omega) Hl4.out HL.out).mono ?_); rintro e w' ⟨rfl, rfl⟩)
  go_ret3
  exact ⟨rfl, rfl⟩

set_option maxRecDepth 100000 in
set_option maxHeartbeats 400000 in
theorem wopen_short2 (h1 : L ≤ 2147483647) (h2 : n < L + 8) :
    Calls Try.prog 23 #[.slice (some ⟨b, off, none⟩) n cap] w fun e w' => e = .returned (.tuple #[.slice none 0 0, .int .i64 0, .int .i64 10]) ∧ w = w' := by
  obtain ⟨hb4, -, hL2⟩ := wopen_pre b off n cap L xs w hb hn h4 hL
  have Hn := Lib.hid hn
  have Hl4 := Lib.hid (show 4 = (xs.take 4).length by simp; omega)
  have hle : n ≤ cap := by have := hb.le; omega
  have HL := Lib.hid hL
  clear hn hL
  go_enter Try.func23, Try.ntmps23
  go_wp2_with (go_at_call 43; (with_reducible refine (high_n (some ⟨b, off, none⟩) 4 cap L (xs.take 4) w hb4 (by omega) Hl4.out HL.out).mono ?_); rintro e w' ⟨rfl, rfl⟩)
  go_ret3
  exact ⟨rfl, rfl⟩

set_option maxRecDepth 100000 in
set_option maxHeartbeats 400000 in
theorem wopen_sum (h1 : L ≤ 2147483647) (h2 : L + 8 ≤ n) (C D : Nat) (hC : C = (crc (xs.take (L + 4))).toNat) (hD : D = loV ((xs.drop (L + 4)).take 4)) (hne : (C == D) = false) :
    Calls Try.prog 23 #[.slice (some ⟨b, off, none⟩) n cap] w fun e w' => e = .returned (.tuple #[.slice none 0 0, .int .i64 0, .int .i64 12]) ∧ Below w.heap.size w w' := by
  obtain ⟨hb4, -, hL2⟩ := wopen_pre b off n cap L xs w hb hn h4 hL
  have Hn := Lib.hid hn
  have Hl4 := Lib.hid (show 4 = (xs.take 4).length by simp; omega)
  have hle : n ≤ cap := by have := hb.le; omega
  have HL := Lib.hid hL
  have HC := Lib.hid hC
  have HD := Lib.hid hD
  clear hn hL hC hD
  go_enter Try.func23, Try.ntmps23
  go_wp2_with (go_at_call 43; (with_reducible refine (high_n (some ⟨b, off, none⟩) 4 cap L (xs.take 4) w hb4 (by omega) Hl4.out HL.out).mono ?_); rintro e w' ⟨rfl, rfl⟩)
  have hbs : Bytes w (some ⟨b, off, none⟩) cap (xs.take (L + 4)) := by
    have := hb.part (lo := 0) (hi := L + 4) (a' := some ⟨b, off, none⟩) (by omega) (by rw [← Hn.out]; omega) (fun b' off' e _ => by cases e; rfl) (fun e => by cases e) (fun e => by cases e)
    simpa using this
  have Hs := Lib.hid (show L + 4 = (xs.take (L + 4)).length by rw [List.length_take_of_le (by rw [← Hn.out]; omega)])
  have hbd : Bytes w (some ⟨b, off + (L + 4), none⟩) (cap - (L + 4)) ((xs.drop (L + 4)).take 4) := by
    have := hb.part (lo := L + 4) (hi := L + 8) (a' := some ⟨b, off + (L + 4), none⟩) (by omega) (by rw [← Hn.out]; omega) (fun b' off' e _ => by cases e; rfl) (fun e => by cases e) (fun e => by cases e)
    rw [show L + 8 - (L + 4) = 4 from by omega] at this
    exact this
  have Hd := Lib.hid (show 4 = ((xs.drop (L + 4)).take 4).length by rw [List.length_take_of_le (by rw [List.length_drop, ← Hn.out]; omega)])
  have hD2 : (D : Int) < 4294967296 := by
    have := loV_lt ((xs.drop (L + 4)).take 4)
    rw [← Hd.out, ← HD.out] at this
    omega
  have hne1 : ((C : Int) != (D : Int)) = true := by simp; intro e; have e2 : C = D := by omega
                                                    subst e2; simp at hne
  have hne2 : ((C : Int) == (D : Int)) = false := by simpa using hne1
  have hcap : ¬ cap = L + 4 := by omega
  have hq0 : 0 ≤ 4 + (L : Int) := by omega
  have hq1 : 4 + (L : Int) ≤ (cap : Int) := by omega
  have hq2 : 4 + (L : Int) + 4 ≤ (cap : Int) := by omega
  have hq3 : IntKind.i64.wrap (4 + (L : Int) + 4) = 4 + (L : Int) + 4 := IntWalk.i64_in _ (by omega)
  have hq5 : 4 + (L : Int) ≤ 4 + (L : Int) + 4 := by omega
  have hq6 : 0 ≤ 4 + (L : Int) + 4 := by omega
  have hq7 : (4 + (L : Int)).toNat = L + 4 := by omega
  have hq4 : (4 + (L : Int) + 4).toNat = L + 8 := by omega
  go_quiet (((first | (go_at_call 25; exact Calls.quiet_of_same ((wsum_n (some ⟨b, off, none⟩) (L + 4) cap _ C _ (hbs.drewN _) Hs.out HC.out).mono (fun e w' h => ⟨h.1, h.2.symm⟩))) | (go_at_call 44; exact Calls.quiet_of_same ((low_n (some ⟨b, off + (L + 4), none⟩) 4 (cap - (L + 4)) D _ _ (hbd.drewN _) (by omega) Hd.out HD.out).mono (fun e w' h => ⟨h.1, h.2.symm⟩))))))
  go_wp2
  go_ret3
  exact ⟨rfl, ⟨rfl, rfl, rfl, Nat.le_refl _, fun _ _ => rfl⟩⟩

set_option maxRecDepth 100000 in
set_option maxHeartbeats 400000 in
theorem wopen_ok (h1 : L ≤ 2147483647) (h2 : L + 8 ≤ n) (C D : Nat) (hC : C = (crc (xs.take (L + 4))).toNat) (hD : D = loV ((xs.drop (L + 4)).take 4)) (hne : C = D) :
    Calls Try.prog 23 #[.slice (some ⟨b, off, none⟩) n cap] w fun e w' => ∃ a' cap', e = .returned (.tuple #[.slice a' L cap', .int .i64 ((L + 8 : Nat) : Int), .int .i64 0]) ∧ OwnB w' w.heap.size a' L cap' ((xs.drop 4).take L) ∧ Below w.heap.size w w' := by
  subst hne
  obtain ⟨hb4, -, hL2⟩ := wopen_pre b off n cap L xs w hb hn h4 hL
  have Hn := Lib.hid hn
  have Hl4 := Lib.hid (show 4 = (xs.take 4).length by simp; omega)
  have hle : n ≤ cap := by have := hb.le; omega
  have hcm := hb.max
  have HL := Lib.hid hL
  have HC := Lib.hid hC
  have HD := Lib.hid hD
  clear hn hL hC hD
  go_enter Try.func23, Try.ntmps23
  go_wp2_with (go_at_call 43; (with_reducible refine (high_n (some ⟨b, off, none⟩) 4 cap L (xs.take 4) w hb4 (by omega) Hl4.out HL.out).mono ?_); rintro e w' ⟨rfl, rfl⟩)
  have hbs : Bytes w (some ⟨b, off, none⟩) cap (xs.take (L + 4)) := by
    have := hb.part (lo := 0) (hi := L + 4) (a' := some ⟨b, off, none⟩) (by omega) (by rw [← Hn.out]; omega) (fun b' off' e _ => by cases e; rfl) (fun e => by cases e) (fun e => by cases e)
    simpa using this
  have Hs := Lib.hid (show L + 4 = (xs.take (L + 4)).length by rw [List.length_take_of_le (by rw [← Hn.out]; omega)])
  have hbd : Bytes w (some ⟨b, off + (L + 4), none⟩) (cap - (L + 4)) ((xs.drop (L + 4)).take 4) := by
    have := hb.part (lo := L + 4) (hi := L + 8) (a' := some ⟨b, off + (L + 4), none⟩) (by omega) (by rw [← Hn.out]; omega) (fun b' off' e _ => by cases e; rfl) (fun e => by cases e) (fun e => by cases e)
    rw [show L + 8 - (L + 4) = 4 from by omega] at this
    exact this
  have Hd := Lib.hid (show 4 = ((xs.drop (L + 4)).take 4).length by rw [List.length_take_of_le (by rw [List.length_drop, ← Hn.out]; omega)])
  have hbm : Bytes w (some ⟨b, off + 4, none⟩) (cap - 4) ((xs.drop 4).take L) := by
    have := hb.part (lo := 4) (hi := L + 4) (a' := some ⟨b, off + 4, none⟩) (by omega) (by rw [← Hn.out]; omega) (fun b' off' e _ => by cases e; rfl) (fun e => by cases e) (fun e => by cases e)
    rw [show L + 4 - 4 = L from by omega] at this
    exact this
  have Hm := Lib.hid (show L = ((xs.drop 4).take L).length by rw [List.length_take_of_le (by rw [List.length_drop, ← Hn.out]; omega)])
  have hD2 : (C : Int) < 4294967296 := by
    have := loV_lt ((xs.drop (L + 4)).take 4)
    rw [← Hd.out, ← HD.out] at this
    omega
  have hne1 : ((C : Int) != (C : Int)) = false := by simp
  have hcap : ¬ cap = L + 4 := by omega
  have hq0 : 0 ≤ 4 + (L : Int) := by omega
  have hq1 : 4 + (L : Int) ≤ (cap : Int) := by omega
  have hq2 : 4 + (L : Int) + 4 ≤ (cap : Int) := by omega
  have hq3 : IntKind.i64.wrap (4 + (L : Int) + 4) = 4 + (L : Int) + 4 := IntWalk.i64_in _ (by omega)
  have hq5 : 4 + (L : Int) ≤ 4 + (L : Int) + 4 := by omega
  have hq6 : 0 ≤ 4 + (L : Int) + 4 := by omega
  have hq7 : (4 + (L : Int)).toNat = L + 4 := by omega
  have hq4 : (4 + (L : Int) + 4).toNat = L + 8 := by omega
  go_quiet (((first | (go_at_call 25; exact Calls.quiet_of_same ((wsum_n (some ⟨b, off, none⟩) (L + 4) cap _ C _ (hbs.drewN _) Hs.out HC.out).mono (fun e w' h => ⟨h.1, h.2.symm⟩))) | (go_at_call 44; exact Calls.quiet_of_same ((low_n (some ⟨b, off + (L + 4), none⟩) 4 (cap - (L + 4)) C _ _ (hbd.drewN _) (by omega) Hd.out HD.out).mono (fun e w' h => ⟨h.1, h.2.symm⟩))))))
  clear hq3 hq7 hq4
  have hbm2 := hbm.drewN nq
  have hbel : Below w.heap.size w (w.drewN nq) := below_drewN (Below.refl _ _) nq
  have hsz : Hid ((w.drewN nq).heap.size = w.heap.size) := Lib.hid (by simp)
  generalize w.drewN nq = W at hbm2 hbel hsz ⊢
  obtain ⟨w1, hrun1, hB1, hg1⟩ := run_make_bytes W L (by omega)
  generalize hZ : List.replicate L (Value.int IntKind.u8 0) = Z at hB1
  have hZl : Z.length = L := by rw [← hZ]; simp
  clear hZ
  generalize hG : W.heap.size = g at hrun1 hB1
  have HG := Lib.hid hG
  clear hG
  have hbm3 : Bytes w1 (some ⟨b, off + 4, none⟩) (cap - 4) ((xs.drop 4).take L) := hbm2.grown (grownBy_below hg1 (fun i e => (by cases e)))
  have hrun2 := run_copy_own (P := Try.prog) w1 31 5 3 Try.underlying31 size_u8 g 0 L L Z hB1 (some ⟨b, off + 4, none⟩) (cap - 4) ((xs.drop 4).take L) hbm3 (by rw [← Hm.out]; exact Nat.le_refl _) (by rw [← Hm.out, hZl]; omega)
  rw [← Hm.out] at hrun2
  obtain ⟨w2, hrun2, hB2, hg2⟩ := hrun2
  have hcap4 : ¬ cap = 4 := by omega
  have hZl' := Lib.hid hZl
  clear hZl
  go_wp2
  go_ret3
  have hfin := over_all Z (((xs.drop 4).take L).map bv) (by rw [hZl'.out, List.length_map, ← Hm.out])
  rw [hfin] at hB2
  have hown := own_of_blk (base := g) (Nat.le_refl _) hB2 (by rw [List.length_map, ← Hm.out]; unfold maxLen; omega)
  rw [List.length_map, ← Hm.out] at hown
  refine ⟨some ⟨g, 0, none⟩, L, ?_, ?_, ?_⟩
  · simp; omega
  · rw [← hsz.out, HG.out]; exact hown
  · exact hbel.trans (hsz.out ▸ grownBy_below (grownBy_trans hg1 hg2 (fun i e => .inr (by cases e; rw [HG.out]; exact Nat.le_refl _))) (fun i e => (by cases e)))
end

end Go.Proofs.Ytahibjiiaocjkaa
