/- Layer 7: grammar.isLong. -/
import Derived.Test.YtoaabfdilhbajaaXe
import Derived.Test.YtoaabfdilhbajaaRange
namespace Go.Proofs.Ytoaabfdilhbajaa
open Go.RowKit Go.Shelf

attribute [local go_sem] Oper.semAt_some

abbrev fV (i : Nat) : Value := .func (.func i) #[] #[]
def longA (d : AltD) : Bool := decide (30 < d.l.length)
def longR (r : RlD) : Bool := decide (30 < r.ds.length) || r.ds.any longA
def longG (rs : List RlD) : Bool := decide (60 < rs.length) || rs.any longR

set_option maxRecDepth 100000 in
set_option maxHeartbeats 1000000 in
theorem longA_any (d : AltD) (w : World) :
    Calls Try.prog 53 #[.slice d.a d.l.length d.c] w fun e w' => e = .returned (.bool (longA d)) ∧ Below w.heap.size w w' := by
  unfold longA
  obtain ⟨L, HL⟩ : ∃ L, Hid (d.l.length = L) := ⟨_, Lib.hid rfl⟩
  rw [HL.out]
  by_cases h : 30 < L
  · have hI : (30 : Int) < (L : Int) := by omega
    have HT : Hid (decide (30 < L) = true) := Lib.hid (decide_eq_true h)
    rw [HT.out]
    go_enter Try.func53, Try.ntmps53
    go_wp2_with (fail)
    exact bodyPost_ret (v := .bool true) (by simp [results, Try.results53, go_sem]; try first | rfl | assumption | omega) rfl ⟨rfl, Below.refl _ _⟩
  · have hI : ¬ (30 : Int) < (L : Int) := by omega
    have HT : Hid (decide (30 < L) = false) := Lib.hid (decide_eq_false h)
    rw [HT.out]
    go_enter Try.func53, Try.ntmps53
    go_wp2_with (fail)
    exact bodyPost_ret (v := .bool false) (by simp [results, Try.results53, go_sem]; try first | rfl | assumption | omega) rfl ⟨rfl, Below.refl _ _⟩

set_option maxRecDepth 100000 in
set_option maxHeartbeats 1000000 in
theorem indexA_any (l : List AltD) (a : Option Addr) (cap : Nat) (w : World) (hl : Alts w a cap l) :
    Calls Try.prog 55 #[.slice a l.length cap, fV 53] w fun r w' => (∃ i : Int, r = .returned (.int .i64 i) ∧ decide (0 ≤ i) = l.any longA) ∧ Below w.heap.size w w' := by
  have hlm : l.length ≤ cap ∧ cap ≤ 9223372036854775807 := ⟨by have := hl.row.le; rw [List.length_map] at this; exact this, hl.row.max⟩
  obtain ⟨L, HL⟩ : ∃ L, Hid (l.length = L) := ⟨_, Lib.hid rfl⟩
  rw [HL.out] at hlm ⊢
  obtain ⟨R, hR⟩ : ∃ R, Hid (l.any longA = R) := ⟨_, Lib.hid rfl⟩
  rw [hR.out]
  go_enter Try.func55, Try.ntmps55
  go_wp2_with (fail)
  go_loopw [5, 8] (fun _ iv wr => ∃ k : Nat, k ≤ L ∧ iv = .int .i64 (k : Int) ∧ R = (l.drop k).any longA ∧ Below w.heap.size w wr) (fun _ iv _ => L - (intOf iv).toNat)
  case atStart => exact ⟨0, Nat.zero_le _, rfl, hR.out.symm, Below.refl _ _⟩
  case round =>
    obtain ⟨k, hk, rfl, hr, hbr⟩ := hrel
    have HR := Lib.hid hr
    clear hr
    by_cases hlt : k < L
    · have hkI : (k : Int) < (L : Int) := by omega
      have hkI0 : (0 : Int) ≤ (k : Int) := by omega
      have hkl : k < l.length := by rw [HL.out]; exact hlt
      obtain ⟨b, off, rfl⟩ := hl.row.at_ k (by rw [List.length_map]; exact hkl)
      have c0 := (hl.row.grown hbr).cell b off rfl k (by rw [List.length_map]; exact hkl)
      rw [List.getElem_map] at c0
      have hdr : Hid (l.drop k = l[k] :: l.drop (k + 1)) := Lib.hid (List.drop_eq_getElem_cons hkl)
      have hm : l[k] ∈ l := List.getElem_mem hkl
      obtain ⟨e, he⟩ : ∃ v, Hid (l[k] = v) := ⟨_, Lib.hid rfl⟩
      rw [he.out] at c0 hm
      have hbl := World.block_lt_of_cell? wr _ c0
      have hc := longA_any e wr
      obtain ⟨S, hS⟩ : ∃ S, Hid (longA e = S) := ⟨_, Lib.hid rfl⟩
      rw [hS.out] at hc
      have Hc := Lib.hid hc
      clear hc hm
      go_wp2_with (fail)
      refine Hc.out.mono ?_
      rintro r w3 ⟨rfl, hb3⟩
      have hb03 := hbr.trans (hb3.mono hbr.size)
      cases S
      · go_wp2_with (fail)
        exact ⟨⟨k + 1, by omega, by simp, by rw [HR.out, hdr.out, List.any_cons, he.out, hS.out, Bool.false_or], hb03⟩, by simp [intOf]; omega⟩
      · have hF : Hid (R = true) := Lib.hid (by rw [HR.out, hdr.out, List.any_cons, he.out, hS.out, Bool.true_or])
        go_wp2_with (fail)
        exact bodyPost_ret (v := .int .i64 (k : Int)) (by simp [results, Try.results55, go_sem]; try first | rfl | assumption | omega) rfl ⟨⟨_, rfl, by rw [hF.out]; exact decide_eq_true hkI0⟩, hb03⟩
    · obtain rfl : k = L := by omega
      have hkI : ¬ (k : Int) < (k : Int) := by omega
      have hT : Hid (R = false) := Lib.hid (by rw [HR.out, List.drop_eq_nil_of_le (by rw [HL.out]; exact Nat.le_refl _)]; rfl)
      go_wp2_with (fail)
      exact bodyPost_ret (v := .int .i64 (-1)) (by simp [results, Try.results55, go_sem]; try first | rfl | assumption | omega) rfl ⟨⟨_, rfl, by rw [hT.out]; rfl⟩, hbr⟩

set_option maxRecDepth 100000 in
set_option maxHeartbeats 1000000 in
theorem containsA_any (l : List AltD) (a : Option Addr) (cap : Nat) (w : World) (hl : Alts w a cap l) :
    Calls Try.prog 52 #[.slice a l.length cap, fV 53] w fun r w' => r = .returned (.bool (l.any longA)) ∧ Below w.heap.size w w' := by
  have Hc := Lib.hid (indexA_any l a cap w hl)
  obtain ⟨R, hR⟩ : ∃ R, Hid (l.any longA = R) := ⟨_, Lib.hid rfl⟩
  rw [hR.out] at Hc ⊢
  obtain ⟨L, HL⟩ : ∃ L, Hid (l.length = L) := ⟨_, Lib.hid rfl⟩
  rw [HL.out] at Hc ⊢
  clear hl
  go_enter Try.func52, Try.ntmps52
  go_wp2_with (fail)
  refine Hc.out.mono ?_
  rintro r w1 ⟨⟨i, rfl, hi⟩, hb1⟩
  have HI := Lib.hid hi
  clear hi
  by_cases h0 : (0 : Int) ≤ i
  · have hF : Hid (R = true) := Lib.hid (by rw [← HI.out]; exact decide_eq_true h0)
    go_wp2_with (fail)
    exact bodyPost_ret (v := .bool true) (by simp [results, Try.results52, go_sem]; try first | rfl | assumption | omega) rfl ⟨by rw [hF.out], hb1⟩
  · have hF : Hid (R = false) := Lib.hid (by rw [← HI.out]; exact decide_eq_false h0)
    go_wp2_with (fail)
    exact bodyPost_ret (v := .bool false) (by simp [results, Try.results52, go_sem]; try first | rfl | assumption | omega) rfl ⟨by rw [hF.out], hb1⟩

set_option maxRecDepth 100000 in
set_option maxHeartbeats 1000000 in
theorem longR_any (r : RlD) (w : World) (hr : Alts w r.a r.c r.ds) :
    Calls Try.prog 37 #[.agg #[.string r.n, .slice r.a r.ds.length r.c]] w fun e w' => e = .returned (.bool (longR r)) ∧ Below w.heap.size w w' := by
  have hlm := (⟨by have := hr.row.le; rw [List.length_map] at this; exact this, hr.row.max⟩ : r.ds.length ≤ r.c ∧ r.c ≤ 9223372036854775807)
  have hA0 := Blk.new w 40 #[.string r.n, .slice r.a r.ds.length r.c]
  have hb0 : Below w.heap.size w (w.alloc (.cells #[.string r.n, .slice r.a r.ds.length r.c] 40)) := (Below.refl _ w).alloc (Nat.le_refl _) _
  have Hc := Lib.hid (containsA_any r.ds r.a r.c _ (hr.grown hb0))
  unfold longR
  obtain ⟨R, hR⟩ : ∃ R, Hid (r.ds.any longA = R) := ⟨_, Lib.hid rfl⟩
  rw [hR.out] at Hc ⊢
  obtain ⟨L, HL⟩ : ∃ L, Hid (r.ds.length = L) := ⟨_, Lib.hid rfl⟩
  rw [HL.out] at hA0 hb0 Hc hlm ⊢
  have x0 := hA0.cell 0
  have x1 := hA0.cell 1
  have xl := hA0.lt
  simp only [List.getElem?_cons_zero, List.getElem?_cons_succ] at x0 x1
  by_cases h : 30 < L
  · have hI : (30 : Int) < (L : Int) := by omega
    have HT : Hid (decide (30 < L) = true) := Lib.hid (decide_eq_true h)
    rw [HT.out, Bool.true_or]
    go_enter Try.func37, Try.ntmps37
    go_wp2_with (fail)
    exact bodyPost_ret (v := .bool true) (by simp [results, Try.results37, go_sem]; try first | rfl | assumption | omega) rfl ⟨rfl, hb0⟩
  · have hI : ¬ (30 : Int) < (L : Int) := by omega
    have HT : Hid (decide (30 < L) = false) := Lib.hid (decide_eq_false h)
    rw [HT.out, Bool.false_or]
    go_enter Try.func37, Try.ntmps37
    go_wp2_with (fail)
    refine Hc.out.mono ?_
    rintro e w1 ⟨rfl, hb1⟩
    have hb2 := hb0.trans (hb1.mono hb0.size)
    cases R
    · go_wp2_with (fail)
      exact bodyPost_ret (v := .bool false) (by simp [results, Try.results37, go_sem]; try first | rfl | assumption | omega) rfl ⟨rfl, hb2⟩
    · go_wp2_with (fail)
      exact bodyPost_ret (v := .bool true) (by simp [results, Try.results37, go_sem]; try first | rfl | assumption | omega) rfl ⟨rfl, hb2⟩

set_option maxRecDepth 100000 in
set_option maxHeartbeats 1000000 in
theorem indexR_any (l : List RlD) (a : Option Addr) (cap : Nat) (w : World) (hl : Rls w a cap l) :
    Calls Try.prog 51 #[.slice a l.length cap, fV 37] w fun r w' => (∃ i : Int, r = .returned (.int .i64 i) ∧ decide (0 ≤ i) = l.any longR) ∧ Below w.heap.size w w' := by
  have hlm : l.length ≤ cap ∧ cap ≤ 9223372036854775807 := ⟨hl.le, hl.max⟩
  obtain ⟨L, HL⟩ : ∃ L, Hid (l.length = L) := ⟨_, Lib.hid rfl⟩
  rw [HL.out] at hlm ⊢
  obtain ⟨R, hR⟩ : ∃ R, Hid (l.any longR = R) := ⟨_, Lib.hid rfl⟩
  rw [hR.out]
  go_enter Try.func51, Try.ntmps51
  go_wp2_with (fail)
  go_loopw [5, 8] (fun _ iv wr => ∃ k : Nat, k ≤ L ∧ iv = .int .i64 (k : Int) ∧ R = (l.drop k).any longR ∧ Below w.heap.size w wr) (fun _ iv _ => L - (intOf iv).toNat)
  case atStart => exact ⟨0, Nat.zero_le _, rfl, hR.out.symm, Below.refl _ _⟩
  case round =>
    obtain ⟨k, hk, rfl, hr, hbr⟩ := hrel
    have HR := Lib.hid hr
    clear hr
    by_cases hlt : k < L
    · have hkI : (k : Int) < (L : Int) := by omega
      have hkI0 : (0 : Int) ≤ (k : Int) := by omega
      have hkl : k < l.length := by rw [HL.out]; exact hlt
      obtain ⟨b, off, rfl⟩ := hl.at_ k hkl
      obtain ⟨c0, c1⟩ := (hl.grown hbr).cell b off rfl k hkl
      have hdr : Hid (l.drop k = l[k] :: l.drop (k + 1)) := Lib.hid (List.drop_eq_getElem_cons hkl)
      have hm : l[k] ∈ l := List.getElem_mem hkl
      obtain ⟨e, he⟩ : ∃ v, Hid (l[k] = v) := ⟨_, Lib.hid rfl⟩
      rw [he.out] at c0 c1 hm
      have hbl := World.block_lt_of_cell? wr _ c0
      have hc := longR_any e wr ((hl.alts e hm).grown hbr)
      obtain ⟨S, hS⟩ : ∃ S, Hid (longR e = S) := ⟨_, Lib.hid rfl⟩
      rw [hS.out] at hc
      have Hc := Lib.hid hc
      clear hc hm
      go_wp2_with (fail)
      refine Hc.out.mono ?_
      rintro r w3 ⟨rfl, hb3⟩
      have hb03 := hbr.trans (hb3.mono hbr.size)
      cases S
      · go_wp2_with (fail)
        exact ⟨⟨k + 1, by omega, by simp, by rw [HR.out, hdr.out, List.any_cons, he.out, hS.out, Bool.false_or], hb03⟩, by simp [intOf]; omega⟩
      · have hF : Hid (R = true) := Lib.hid (by rw [HR.out, hdr.out, List.any_cons, he.out, hS.out, Bool.true_or])
        go_wp2_with (fail)
        exact bodyPost_ret (v := .int .i64 (k : Int)) (by simp [results, Try.results51, go_sem]; try first | rfl | assumption | omega) rfl ⟨⟨_, rfl, by rw [hF.out]; exact decide_eq_true hkI0⟩, hb03⟩
    · obtain rfl : k = L := by omega
      have hkI : ¬ (k : Int) < (k : Int) := by omega
      have hT : Hid (R = false) := Lib.hid (by rw [HR.out, List.drop_eq_nil_of_le (by rw [HL.out]; exact Nat.le_refl _)]; rfl)
      go_wp2_with (fail)
      exact bodyPost_ret (v := .int .i64 (-1)) (by simp [results, Try.results51, go_sem]; try first | rfl | assumption | omega) rfl ⟨⟨_, rfl, by rw [hT.out]; rfl⟩, hbr⟩

set_option maxRecDepth 100000 in
set_option maxHeartbeats 1000000 in
theorem containsR_any (l : List RlD) (a : Option Addr) (cap : Nat) (w : World) (hl : Rls w a cap l) :
    Calls Try.prog 36 #[.slice a l.length cap, fV 37] w fun r w' => r = .returned (.bool (l.any longR)) ∧ Below w.heap.size w w' := by
  have Hc := Lib.hid (indexR_any l a cap w hl)
  obtain ⟨R, hR⟩ : ∃ R, Hid (l.any longR = R) := ⟨_, Lib.hid rfl⟩
  rw [hR.out] at Hc ⊢
  obtain ⟨L, HL⟩ : ∃ L, Hid (l.length = L) := ⟨_, Lib.hid rfl⟩
  rw [HL.out] at Hc ⊢
  clear hl
  go_enter Try.func36, Try.ntmps36
  go_wp2_with (fail)
  refine Hc.out.mono ?_
  rintro r w1 ⟨⟨i, rfl, hi⟩, hb1⟩
  have HI := Lib.hid hi
  clear hi
  by_cases h0 : (0 : Int) ≤ i
  · have hF : Hid (R = true) := Lib.hid (by rw [← HI.out]; exact decide_eq_true h0)
    go_wp2_with (fail)
    exact bodyPost_ret (v := .bool true) (by simp [results, Try.results36, go_sem]; try first | rfl | assumption | omega) rfl ⟨by rw [hF.out], hb1⟩
  · have hF : Hid (R = false) := Lib.hid (by rw [← HI.out]; exact decide_eq_false h0)
    go_wp2_with (fail)
    exact bodyPost_ret (v := .bool false) (by simp [results, Try.results36, go_sem]; try first | rfl | assumption | omega) rfl ⟨by rw [hF.out], hb1⟩

set_option maxRecDepth 100000 in
set_option maxHeartbeats 1000000 in
theorem longG_any (rs : List RlD) (a : Option Addr) (cap : Nat) (w : World) (hr : Rls w a cap rs) :
    Calls Try.prog 21 #[.agg #[.slice a rs.length cap]] w fun e w' => e = .returned (.bool (longG rs)) ∧ Below w.heap.size w w' := by
  have hlm := (⟨hr.le, hr.max⟩ : rs.length ≤ cap ∧ cap ≤ 9223372036854775807)
  have hA0 := Blk.new w 24 #[.slice a rs.length cap]
  have hb0 : Below w.heap.size w (w.alloc (.cells #[.slice a rs.length cap] 24)) := (Below.refl _ w).alloc (Nat.le_refl _) _
  have Hc := Lib.hid (containsR_any rs a cap _ (hr.grown hb0))
  unfold longG
  obtain ⟨R, hR⟩ : ∃ R, Hid (rs.any longR = R) := ⟨_, Lib.hid rfl⟩
  rw [hR.out] at Hc ⊢
  obtain ⟨L, HL⟩ : ∃ L, Hid (rs.length = L) := ⟨_, Lib.hid rfl⟩
  rw [HL.out] at hA0 hb0 Hc hlm ⊢
  have x0 := hA0.cell 0
  have xl := hA0.lt
  simp only [List.getElem?_cons_zero] at x0
  by_cases h : 60 < L
  · have hI : (60 : Int) < (L : Int) := by omega
    have HT : Hid (decide (60 < L) = true) := Lib.hid (decide_eq_true h)
    rw [HT.out, Bool.true_or]
    go_enter Try.func21, Try.ntmps21
    go_wp2_with (fail)
    exact bodyPost_ret (v := .bool true) (by simp [results, Try.results21, go_sem]; try first | rfl | assumption | omega) rfl ⟨rfl, hb0⟩
  · have hI : ¬ (60 : Int) < (L : Int) := by omega
    have HT : Hid (decide (60 < L) = false) := Lib.hid (decide_eq_false h)
    rw [HT.out, Bool.false_or]
    go_enter Try.func21, Try.ntmps21
    go_wp2_with (fail)
    refine Hc.out.mono ?_
    rintro e w1 ⟨rfl, hb1⟩
    have hb2 := hb0.trans (hb1.mono hb0.size)
    cases R
    · go_wp2_with (fail)
      exact bodyPost_ret (v := .bool false) (by simp [results, Try.results21, go_sem]; try first | rfl | assumption | omega) rfl ⟨rfl, hb2⟩
    · go_wp2_with (fail)
      exact bodyPost_ret (v := .bool true) (by simp [results, Try.results21, go_sem]; try first | rfl | assumption | omega) rfl ⟨rfl, hb2⟩
end Go.Proofs.Ytoaabfdilhbajaa
