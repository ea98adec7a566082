/- The reference's Check and Same; big. -/
import Derived.Test.YtahibjiiaocjkaaRef
namespace Go.Proofs.Ytahibjiiaocjkaa
open Go.RowKit

theorem checkE_ref (h : Hd) (kids : Fo) : checkE (Fo.pre 1 (.cons h kids .nil)) = if (plainB h kids.len && mayB kids) = true then (if kids.deep + 1 ≤ 40 then 0 else 3) else 1 := by
  unfold checkE
  have e1 : ((Fo.pre 1 (.cons h kids .nil)).all fun x => plainB x.h x.len) = (plainB h kids.len && mayB kids) := by
    have := mayB_cons h kids .nil
    rw [show mayB .nil = true from rfl, Bool.and_true] at this
    exact this
  have e2 := pre_deep (.cons h kids .nil) 1 (by omega)
  rw [e1, e2]
  by_cases hp : (plainB h kids.len && mayB kids) = true
  · rw [if_pos hp, if_pos hp]
    have : (1 + (Fo.cons h kids .nil).deep ≤ 41) ↔ kids.deep + 1 ≤ 40 := by
      show 1 + max (kids.deep + 1) 0 ≤ 41 ↔ _
      omega
    by_cases h2 : kids.deep + 1 ≤ 40
    · rw [if_pos h2, if_pos (decide_eq_true (this.2 h2))]
    · rw [if_neg h2, if_neg (by rw [decide_eq_false (fun h => h2 (this.1 h))]; decide)]
  · rw [if_neg hp, if_neg hp]

set_option maxRecDepth 100000 in
set_option maxHeartbeats 1000000 in
theorem rcheck_any (h : Hd) (kids : Fo) (a : Option Addr) (cap : Nat) (w : World) (hI : Items w a cap kids) (hN : kids.size ≤ 1099511627776) :
    Calls Try.prog 15 #[itemV h a kids.len cap] w fun e w' => e = .returned (.int .i64 (checkE (Fo.pre 1 (.cons h kids .nil)))) ∧ Below w.heap.size w w' := by
  obtain ⟨E, HE⟩ : ∃ E : Int, Hid (checkE (Fo.pre 1 (.cons h kids .nil)) = E) := ⟨_, Lib.hid rfl⟩
  rw [HE.out]
  have hb0 := (Below.refl w.heap.size w).alloc (Nat.le_refl _) (.cells #[.int .i64 h.k, .int .i64 h.n, .string h.s, .slice a kids.len cap] 24)
  have hI1 := hI.grown hb0
  have hB0 := Blk.new w 24 #[.int .i64 h.k, .int .i64 h.n, .string h.s, .slice a kids.len cap]
  have hlt0 := hB0.lt
  go_enter Try.func15, Try.ntmps15
  go_wp2_with (fail)
  refine (may_any (kids.size + 1) h kids a cap _ (by omega) hI1).mono ?_
  rintro e w1 ⟨rfl, hb1⟩
  have hB1 := hB0.below hb1 hlt0
  have hI2 := hI1.grown hb1
  have hb2 : Below w.heap.size w w1 := hb0.trans (hb1.mono hb0.size)
  clear hb0 hb1 hB0 hlt0 hI1
  by_cases hm : (plainB h kids.len && mayB kids) = true
  · rw [hm]
    have y0 := hB1.cell 0
    have y1 := hB1.cell 1
    have y2 := hB1.cell 2
    have y3 := hB1.cell 3
    simp only [List.getElem?_cons_zero, List.getElem?_cons_succ] at y0 y1 y2 y3
    clear hB1
    go_wp2_with (fail)
    refine (deep_any (kids.size + 1) h kids a cap w1 (by omega) (by omega) hI2).mono ?_
    rintro e w3 ⟨rfl, hb3⟩
    have hb4 : Below w.heap.size w w3 := hb2.trans (hb3.mono hb2.size)
    have hdl := Fo.deep_le kids
    clear hb3 hb2 y0 y1 y2 y3 hI2
    by_cases hd : kids.deep + 1 ≤ 40
    · go_wp2_with (fail)
      exact bodyPost_ret (v := .int .i64 0) (by simp [results, Try.results15, go_sem]; try rfl) rfl ⟨by rw [← HE.out, checkE_ref, if_pos hm, if_pos hd], hb4⟩
    · go_wp2_with (fail)
      exact bodyPost_ret (v := .int .i64 3) (by simp [results, Try.results15, go_sem]; try rfl) rfl ⟨by rw [← HE.out, checkE_ref, if_pos hm, if_neg hd], hb4⟩
  · have hm' : (plainB h kids.len && mayB kids) = false := by simpa using hm
    rw [hm']
    go_wp2_with (fail)
    exact bodyPost_ret (v := .int .i64 1) (by simp [results, Try.results15, go_sem]; try rfl) rfl ⟨by rw [← HE.out, checkE_ref, if_neg hm], hb2⟩

/-- Some item of the list has more than 2000 items in it. -/
def bigB : Fo → Bool
  | .nil => false
  | .cons _ kids rest => !decide (kids.size + 1 ≤ 2000) || bigB rest
theorem At.big {w : World} {b off k xcap : Nat} {kids ks : Fo} {hd : Hd} {xa : Option Addr} (h : At w b off k kids hd ks xa xcap) : bigB (kids.drop k) = (!decide ((ks.size : Int) + 1 ≤ 2000) || bigB (kids.drop (k + 1))) := by
  rw [h.cut, Fo.drop_succ _ _ _ _ _ h.cut]
  simp only [bigB]
  rw [show decide (ks.size + 1 ≤ 2000) = decide ((ks.size : Int) + 1 ≤ 2000) from decide_eq_decide.2 (by omega)]

set_option maxRecDepth 100000 in
set_option maxHeartbeats 1000000 in
theorem big_any (f : Fo) (a : Option Addr) (cap : Nat) (w : World) (hI : Items w a cap f) :
    Calls Try.prog 13 #[.slice a f.len cap] w fun e w' => e = .returned (.bool (bigB f)) ∧ Below w.heap.size w w' := by
  have hlm : f.len ≤ cap ∧ cap ≤ 9223372036854775807 := ⟨hI.le, hI.max⟩
  obtain ⟨L, HL⟩ : ∃ L, Hid (f.len = L) := ⟨_, Lib.hid rfl⟩
  rw [HL.out] at hlm ⊢
  go_enter Try.func13, Try.ntmps13
  go_wp2
  go_loopw [4, 7] (fun _ i wr => ∃ (k : Nat), k ≤ L ∧ i = .int .i64 k ∧ bigB f = bigB (f.drop k) ∧ Below w.heap.size w wr) (fun _ i _ => L - (intOf i).toNat)
  case atStart => exact ⟨0, by omega, rfl, rfl, Below.refl _ w⟩
  case round =>
    obtain ⟨k, hk, rfl, hr, hbr⟩ := hrel
    have HR := Lib.hid hr
    clear hr
    by_cases hlt : k < L
    · obtain ⟨b, off, hd, ks, xa, xcap, rfl, hat⟩ := (hI.grown hbr).at (k := k) (by rw [HL.out]; exact hlt)
      obtain ⟨x0, x1, x2, x3, hIk, hcut⟩ := hat
      have HM := Lib.hid (At.big ⟨x0, x1, x2, x3, hIk, hcut⟩)
      clear hcut
      have hmx := hIk.le
      have hmx2 := hIk.max
      have hnx := (Below.refl wr.heap.size wr).alloc (Nat.le_refl _) (.cells #[.int .i64 hd.k, .int .i64 hd.n, .string hd.s, .slice xa ks.len xcap] 24)
      have hIk2 := hIk.grown hnx
      have hbn : Below w.heap.size w (wr.alloc (.cells #[.int .i64 hd.k, .int .i64 hd.n, .string hd.s, .slice xa ks.len xcap] 24)) := hbr.trans (hnx.mono hbr.size)
      clear hnx hIk
      go_wp2_with (fail)
      refine (few_any hd ks xa xcap 2000 _ hIk2 (by omega) (by omega)).mono ?_
      rintro e w4 ⟨rfl, hb4⟩
      have hb5 : Below w.heap.size w w4 := hbn.trans (hb4.mono hbn.size)
      clear hb4 hbn hIk2 x0 x1 x2 x3
      by_cases hm : (ks.size : Int) + 1 ≤ 2000
      · rw [decide_eq_true hm] at HM ⊢
        go_wp2_with (fail)
        go_roundw
        case rel => exact ⟨k + 1, by omega, by go_num, by rw [HR.out, HM.out]; rfl, hb5⟩
        case measure => simp [intOf]; omega
      · rw [decide_eq_false hm] at HM ⊢
        go_wp2_with (fail)
        exact bodyPost_ret (v := .bool true) (by simp [results, Try.results13, go_sem]; try rfl) rfl ⟨ret_bool (by rw [HR.out, HM.out]; rfl), hb5⟩
    · obtain rfl : k = L := by omega
      have HK : Hid (bigB f = false) := Lib.hid (by rw [HR.out, Fo.drop_all (by rw [HL.out]; exact Nat.le_refl _)]; rfl)
      go_wp2_with (fail)
      exact bodyPost_ret (v := .bool false) (by simp [results, Try.results13, go_sem]; try rfl) rfl ⟨ret_bool HK.out.symm, hbr⟩
end Go.Proofs.Ytahibjiiaocjkaa
