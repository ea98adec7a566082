/- Texts of layer 2 joined: WHd. -/
import Derived.Test.YtkdfobnkebkpfaaJM
import Derived.Test.YtkdfobnkebkpfaaJK
set_option linter.unusedVariables false
set_option linter.unusedSimpArgs false
/- hard: whether an expression and a text are too great to be played. -/
namespace Go.Proofs.Ytkdfobnkebkpfaa
open Go.RowKit Go.Shelf

attribute [local go_sem] Oper.semAt_some

def hardE (x : Ex) (n : Nat) : Bool := !fewB 60 x.h x.k || decide (20 < n) || decide (12 < x.k.deep + 1)
theorem hardE_no {x : Ex} {n : Nat} (h : hardE x n = false) : x.k.size ≤ 60 ∧ n ≤ 20 := by
  unfold hardE at h
  simp only [Bool.or_eq_false_iff, Bool.not_eq_false', decide_eq_false_iff_not] at h
  obtain ⟨⟨h1, h2⟩, _⟩ := h
  unfold fewB at h1
  rw [decide_eq_true_eq] at h1
  have := Fo.size_wt x.k
  omega
set_option maxRecDepth 100000 in
set_option maxHeartbeats 1000000 in
theorem hard_any (ea : Ea) (s : ByteArray) (w : World) (hs : Sps w ea.sa ea.sc ea.x.h.set) (hI : Items w ea.a ea.c ea.x.k) :
    Calls Try.prog 25 #[.agg #[.int .i64 ea.x.h.k, .slice ea.sa ea.x.h.set.length ea.sc, .slice ea.a ea.x.k.len ea.c], .string s] w fun e w' => e = .returned (.bool (hardE ea.x s.size)) ∧ Below w.heap.size w w' := by
  have hA0 := Blk.new w 25 #[.int .i64 ea.x.h.k, .slice ea.sa ea.x.h.set.length ea.sc, .slice ea.a ea.x.k.len ea.c]
  have hb0 : Below w.heap.size w (w.alloc (.cells #[.int .i64 ea.x.h.k, .slice ea.sa ea.x.h.set.length ea.sc, .slice ea.a ea.x.k.len ea.c] 25)) := (Below.refl _ w).alloc (Nat.le_refl _) _
  have hfew := few_B ea.x.h ea.x.k ea.sa ea.sc ea.a ea.c 60 _ (hs.grown hb0) (hI.grown hb0) (by omega) (by omega)
  dsimp only [itemV] at hfew
  obtain ⟨R, HR⟩ : ∃ R, Hid (hardE ea.x s.size = R) := ⟨_, Lib.hid rfl⟩
  rw [HR.out]
  obtain ⟨F, HF⟩ : ∃ F, Hid (fewB 60 ea.x.h ea.x.k = F) := ⟨_, Lib.hid rfl⟩
  rw [HF.out] at hfew
  have hsz : Hid (F = true → ea.x.k.size ≤ 60) := Lib.hid fun h => by
    have h1 := HF.out
    rw [h] at h1
    unfold fewB at h1
    rw [decide_eq_true_eq] at h1
    have := Fo.size_wt ea.x.k
    omega
  go_enter Try.func25, Try.ntmps25
  go_wp2_with (fail)
  refine hfew.mono ?_
  rintro e w1 ⟨rfl, hb1⟩
  have hA1 := hA0.below hb1 hA0.lt
  have hb01 := hb0.trans (hb1.mono hb0.size)
  have x0 := hA1.cell 0
  have x1 := hA1.cell 1
  have x2 := hA1.cell 2
  have xl := hA1.lt
  simp only [List.getElem?_cons_zero, List.getElem?_cons_succ] at x0 x1 x2
  clear hfew hb0 hA0 hb1
  cases F
  case false =>
    have hR : Hid (R = true) := Lib.hid (by rw [← HR.out, hardE, HF.out]; rfl)
    go_wp2_with (fail)
    exact bodyPost_ret (v := .bool true) (by simp [results, Try.results25, go_sem]; try rfl) rfl ⟨ret_bool hR.out.symm, hb01⟩
  by_cases hn : 20 < s.size
  · have hnI : (20 : Int) < (s.size : Int) := by omega
    have hR : Hid (R = true) := Lib.hid (by rw [← HR.out, hardE, HF.out, decide_eq_true hn]; rfl)
    clear hn
    go_wp2_with (fail)
    exact bodyPost_ret (v := .bool true) (by simp [results, Try.results25, go_sem]; try rfl) rfl ⟨ret_bool hR.out.symm, hb01⟩
  have hnI : ¬ (20 : Int) < (s.size : Int) := by omega
  have hdp := deep_any (ea.x.k.size + 1) ea.x.h ea.x.k ea.sa ea.sc ea.a ea.c w1 (Nat.lt_succ_self _) (by have := hsz.out rfl; omega) (hI.grown hb01)
  dsimp only [itemV] at hdp
  have hR : Hid (R = decide (12 < ea.x.k.deep + 1)) := Lib.hid (by rw [← HR.out, hardE, HF.out, decide_eq_false hn]; rfl)
  obtain ⟨D, HD⟩ : ∃ D, Hid (ea.x.k.deep = D) := ⟨_, Lib.hid rfl⟩
  rw [HD.out] at hdp hR
  clear hn
  go_wp2_with (fail)
  refine hdp.mono ?_
  rintro e w2 ⟨rfl, hb2⟩
  have hb02 := hb01.trans (hb2.mono hb01.size)
  by_cases hd : 12 < D + 1
  · have hdI : (12 : Int) < (D : Int) + 1 := by omega
    have hR2 : Hid (R = true) := Lib.hid (by rw [hR.out, decide_eq_true hd])
    go_wp2_with (fail)
    exact bodyPost_ret (v := .bool true) (by simp [results, Try.results25, go_sem]; try rfl) rfl ⟨ret_bool hR2.out.symm, hb02⟩
  · have hdI : ¬ (12 : Int) < (D : Int) + 1 := by omega
    have hR2 : Hid (R = false) := Lib.hid (by rw [hR.out, decide_eq_false hd])
    go_wp2_with (fail)
    exact bodyPost_ret (v := .bool false) (by simp [results, Try.results25, go_sem]; omega) rfl ⟨ret_bool hR2.out.symm, hb02⟩
end Go.Proofs.Ytkdfobnkebkpfaa
