/- The reference's Encode. -/
import Derived.Test.YtahibjiiaocjkaaRWrite2
import Derived.Test.YtahibjiiaocjkaaArg2
namespace Go.Proofs.Ytahibjiiaocjkaa
open Go.RowKit

theorem wt_of {h : Hd} {kids : Fo} {N : Nat} (hF : Fits h kids N) (hN : N ≤ 1048576) : wt (Fo.pre 1 (.cons h kids .nil)) ≤ 70368744177664 := by
  have h1 := wt_pre (.cons h kids .nil) 1
  have h2 := hF.2.2.2
  simp only [Fo.wtS] at h1
  omega
theorem fit_of {h : Hd} {kids : Fo} {N : Nat} (hF : Fits h kids N) : (Fo.cons h kids .nil).fit := ⟨hF.1, by have := hF.2.1; omega, hF.2.2.1, trivial⟩
theorem encB_bad {h : Hd} {kids : Fo} (e : ¬ checkE (Fo.pre 1 (.cons h kids .nil)) = 0) : encB (Fo.pre 1 (.cons h kids .nil)) = [] := by
  unfold encB; rw [if_neg e]
/-- Less than room enough is written. -/
theorem encL_room {h : Hd} {kids : Fo} {N : Nat} (hF : Fits h kids N) (hN : N ≤ 1048576) : (encL (Fo.pre 1 (.cons h kids .nil))).length ≤ 70368744177664 := by
  have hw := wt_of hF hN
  refine Nat.le_trans (encL_le _ (fun x hx => ?_)) hw
  have h1 := pre_len _ 1 x hx
  have h2 := size_wtS kids
  have h3 := hF.2.2.2
  refine ⟨by simp [Fo.size] at h1; omega, ?_⟩
  have : ∀ (l : List Nd), x ∈ l → x.h.s.size ≤ wt l := by
    intro l
    induction l with
    | nil => intro h; cases h
    | cons y r ih => intro h; rcases List.mem_cons.1 h with rfl | h
                     · simp [wt]; omega
                     · have := ih h; simp [wt]; omega
  have := this _ hx
  omega

set_option maxRecDepth 100000 in
set_option maxHeartbeats 1000000 in
theorem rencode_any (h : Hd) (kids : Fo) (a : Option Addr) (cap : Nat) (w : World) (hI : Items w a cap kids) (hN : kids.size ≤ 1099511627776) (hT : (encL (Fo.pre 1 (.cons h kids .nil))).length ≤ 70368744177664) :
    Calls Try.prog 21 #[itemV h a kids.len cap] w fun e w' => ∃ a' c', e = .returned (.tuple #[.slice a' (encB (Fo.pre 1 (.cons h kids .nil))).length c', .int .i64 (checkE (Fo.pre 1 (.cons h kids .nil)))]) ∧
      OwnB w' w.heap.size a' (encB (Fo.pre 1 (.cons h kids .nil))).length c' (encB (Fo.pre 1 (.cons h kids .nil))) ∧ Below w.heap.size w w' := by
  obtain ⟨hk, hn, hs⟩ := h
  have hbad := fun e => encB_bad (h := ⟨hk, hn, hs⟩) (kids := kids) e
  have hgood := fun e => check_may (h := ⟨hk, hn, hs⟩) (kids := kids) e
  have hEB : checkE (Fo.pre 1 (.cons ⟨hk, hn, hs⟩ kids .nil)) = 0 → encB (Fo.pre 1 (.cons ⟨hk, hn, hs⟩ kids .nil)) = encL (Fo.pre 1 (.cons ⟨hk, hn, hs⟩ kids .nil)) := fun e => by unfold encB; rw [if_pos e]
  obtain ⟨L, HL⟩ : ∃ L, Hid (kids.len = L) := ⟨_, Lib.hid rfl⟩
  obtain ⟨E, HE⟩ : ∃ E, Hid (checkE (Fo.pre 1 (.cons ⟨hk, hn, hs⟩ kids .nil)) = E) := ⟨_, Lib.hid rfl⟩
  obtain ⟨X, HX⟩ : ∃ E, Hid (encB (Fo.pre 1 (.cons ⟨hk, hn, hs⟩ kids .nil)) = E) := ⟨_, Lib.hid rfl⟩
  have hBx := Blk.new w 24 #[.int .i64 hk, .int .i64 hn, .string hs, .slice a L cap]
  have hb0 : Below w.heap.size w (w.alloc (.cells #[.int .i64 hk, .int .i64 hn, .string hs, .slice a L cap] 24)) := (Below.refl _ w).alloc (Nat.le_refl _) _
  have hrc := rcheck_any ⟨hk, hn, hs⟩ kids a cap _ (hI.grown hb0) hN
  rw [HE.out, HL.out] at hrc
  rw [HL.out, HE.out, HX.out]
  rw [HE.out, HX.out] at hbad hEB
  rw [HE.out] at hgood
  have Hbad := Lib.hid hbad
  have Hgood := Lib.hid hgood
  have HEB := Lib.hid hEB
  clear hbad hgood hEB
  go_enter Try.func21, Try.ntmps21
  go_wp2_with (fail)
  refine hrc.mono ?_
  rintro e w1 ⟨rfl, hb1⟩
  have hB1 := hBx.below hb1 hBx.lt
  have hb2 : Below w.heap.size w w1 := hb0.trans (hb1.mono hb0.size)
  have x0 := hB1.cell 0
  have x1 := hB1.cell 1
  have x2 := hB1.cell 2
  have x3 := hB1.cell 3
  simp only [List.getElem?_cons_zero, List.getElem?_cons_succ] at x0 x1 x2 x3
  clear hBx hb0 hb1 hrc hB1
  by_cases hE : E = 0
  · have hm := Hgood.out hE
    rw [mayB_cons, show mayB .nil = true from rfl, Bool.and_true, Bool.and_eq_true] at hm
    have hX := HEB.out hE
    have hrw := rwrite_any (kids.size + 1) ⟨hk, hn, hs⟩ kids a cap w1 (by omega) (hI.grown hb2) hm.1 hm.2 hT
    rw [← hX, HL.out] at hrw
    have hE1 : (E != 0) = false := by simp [hE]
    have HE0 := Lib.hid hE
    clear hE hX hm
    go_wp2_with (fail)
    refine hrw.mono ?_
    rintro e w2 ⟨a2, c2, rfl, ho2, hb3⟩
    have Ho := Lib.hid (ho2.mono hb2.size)
    have HB := Lib.hid (hb2.trans (hb3.mono hb2.size))
    clear ho2 hb3 hrw
    go_wp2_with (fail)
    exact bodyPost_ret (v := .tuple #[.slice a2 X.length c2, .int .i64 0]) (by simp [results, Try.results21, go_sem]; try rfl) rfl ⟨a2, c2, by rw [HE0.out], Ho.out, HB.out⟩
  · have hX := Hbad.out hE
    have hE1 : (E != 0) = true := by simpa using hE
    have HX0 := Lib.hid hX
    clear hE hX
    go_wp2_with (fail)
    exact bodyPost_ret (v := .tuple #[.slice none 0 0, .int .i64 E]) (by simp [results, Try.results21, go_sem]; try rfl) rfl ⟨none, 0, by rw [HX0.out]; rfl, by rw [HX0.out]; exact OwnB.nil _ _, hb2⟩
end Go.Proofs.Ytahibjiiaocjkaa
