/- Texts of layer 2 joined: Ug Uh Ui Uj Uk. -/
import Derived.Test.YtkdfobnkebkpfaaJU1
set_option linter.unusedVariables false
set_option linter.unusedSimpArgs false
/- The reference's reader: byte behind a backslash (the end; a special). -/
namespace Go.Proofs.Ytkdfobnkebkpfaa
open Go.RowKit Go.Shelf
attribute [local go_sem] Oper.semAt_some

set_option maxRecDepth 100000 in
set_option maxHeartbeats 1000000 in
theorem rbyte_e (w : World) (rb : Nat) (s : ByteArray) (a : Nat) (hA : RAt w rb s a false) (ha : a < s.size) (hc : s[a] = 92) (a1 : Nat) (h1' : a1 = a + 1) (hz : a1 = s.size) (hs : s.size ≤ 4096) :
    Calls Try.prog 92 #[.pointer (some ⟨rb, 0, none⟩)] w (RBad w rb s a1) := by
  unfold RBad
  obtain ⟨c0, c1, c2⟩ := hA.cells
  have hlt := hA.lt
  have HA := Lib.hid hA
  have hq : ¬ s.size ≤ a := by omega
  have hq2 : ¬ (s.size : Int) ≤ (a : Int) := by omega
  have hq3 : (a : Int) < (s.size : Int) := by omega
  obtain ⟨u, hu⟩ : ∃ u, Hid (s[a] = u) := ⟨_, Lib.hid rfl⟩
  have hu' := hu.out
  rw [hu'] at hc
  have hn : ((u.toNat : Int) != 92) = false := by rw [hc]; rfl
  have h1 := Lib.hid h1'
  clear h1'
  have HZ := Lib.hid hz
  clear hz
  clear hA hc
  go_enter Try.func92, Try.ntmps92
  go_wp2_with (fail)
  go_quiet (fail)
  have HA2 := Lib.hid (HA.out.drewN nq)
  have hg0 := grownBy_drewN w nq (some rb)
  obtain ⟨d0, d1, d2⟩ := HA2.out.cells
  generalize w.drewN nq = W at HA2 hg0 d0 d1 d2 ⊢
  clear c0 c1 c2 hlt
  go_wp2_with (fail)
  go_quiet (fail)
  have HA3 := Lib.hid (HA2.out.drewN nq)
  have hg1 := grownBy_rb hg0 (grownBy_drewN W nq (some rb))
  have f1 := HA3.out.frozen 1
  have hlt := HA3.out.lt
  obtain ⟨x0, x1, x2⟩ := HA3.out.cells
  generalize W.drewN nq = W1 at HA3 hg1 f1 hlt x0 x1 x2 ⊢
  clear d0 d1 d2
  go_wp2_with (fail)
  have HA4 := Lib.hid (HA3.out.set a1 (.int .i64 ((a : Int) + 1)) (by rw [h1.out]; simp))
  have hg4 := grownBy_rb hg1 (grownBy_set W1 rb 1 (.int .i64 ((a : Int) + 1)))
  obtain ⟨y0, y1, y2⟩ := HA4.out.cells
  generalize W1.setCell ⟨rb, 1, none⟩ (.int .i64 ((a : Int) + 1)) = W2 at HA4 hg4 y0 y1 y2 ⊢
  clear x0 x1 x2 f1 hlt hu' hn hq hq2 hq3
  have hr : s.size ≤ a1 := by have := HZ.out; omega
  have hr2 : (s.size : Int) ≤ (a1 : Int) := by omega
  go_quiet (fail)
  have HA5 := Lib.hid (HA4.out.drewN nq)
  have hg5 := grownBy_rb hg4 (grownBy_drewN W2 nq (some rb))
  have f5 := HA5.out.frozen 1
  have hlt5 := HA5.out.lt
  obtain ⟨z0, z1, z2⟩ := HA5.out.cells
  generalize W2.drewN nq = W3 at HA5 hg5 f5 hlt5 z0 z1 z2 ⊢
  clear y0 y1 y2
  clear z0 z1 z2 f5
  have hf := rfail_any W3 rb s a1 false HA5.out
  go_wp2_with (go_at_call 43; (with_reducible refine hf.mono ?_); rintro e w8 ⟨rfl, h8, g8⟩)
  exact bodyPost_ret (v := .int .u8 0) (by simp [results, Try.results92, go_sem]; try rfl) rfl ⟨rfl, h8, grownBy_rb hg5 g8⟩
set_option maxRecDepth 100000 in
set_option maxHeartbeats 1000000 in
theorem rbyte_sp (w : World) (rb : Nat) (s : ByteArray) (a : Nat) (hA : RAt w rb s a false) (ha : a < s.size) (hc : s[a] = 92) (a1 : Nat) (h1' : a1 = a + 1) (hz : a1 < s.size) (hw : barB specials s[a1] = true) (hs : s.size ≤ 4096) :
    Calls Try.prog 92 #[.pointer (some ⟨rb, 0, none⟩)] w fun e w' => e = .returned (.int .u8 (s[a1].toNat : Int)) ∧ RAt w' rb s (a + 2) false ∧ w.grownBy w' (some rb) := by
  obtain ⟨c0, c1, c2⟩ := hA.cells
  have hlt := hA.lt
  have HA := Lib.hid hA
  have hq : ¬ s.size ≤ a := by omega
  have hq2 : ¬ (s.size : Int) ≤ (a : Int) := by omega
  have hq3 : (a : Int) < (s.size : Int) := by omega
  obtain ⟨u, hu⟩ : ∃ u, Hid (s[a] = u) := ⟨_, Lib.hid rfl⟩
  have hu' := hu.out
  rw [hu'] at hc
  have hn : ((u.toNat : Int) != 92) = false := by rw [hc]; rfl
  have h1 := Lib.hid h1'
  clear h1'
  obtain ⟨t, HT⟩ : ∃ t, Hid (s[a1]'hz = t) := ⟨_, Lib.hid rfl⟩
  have hw' := hw
  have HTT := HT.out
  rw [HTT] at hw' ⊢
  clear HTT
  have hsp : ∀ W : World, Calls Try.prog 83 #[.int .u8 (t.toNat : Int)] W fun e w' => e = .returned (.bool true) ∧ w' = W := fun W => by
    have := special_any t W
    unfold barB at hw'
    rw [hw'] at this
    exact this
  clear hw hw'
  clear hA hc
  go_enter Try.func92, Try.ntmps92
  go_wp2_with (fail)
  go_quiet (fail)
  have HA2 := Lib.hid (HA.out.drewN nq)
  have hg0 := grownBy_drewN w nq (some rb)
  obtain ⟨d0, d1, d2⟩ := HA2.out.cells
  generalize w.drewN nq = W at HA2 hg0 d0 d1 d2 ⊢
  clear c0 c1 c2 hlt
  go_wp2_with (fail)
  go_quiet (fail)
  have HA3 := Lib.hid (HA2.out.drewN nq)
  have hg1 := grownBy_rb hg0 (grownBy_drewN W nq (some rb))
  have f1 := HA3.out.frozen 1
  have hlt := HA3.out.lt
  obtain ⟨x0, x1, x2⟩ := HA3.out.cells
  generalize W.drewN nq = W1 at HA3 hg1 f1 hlt x0 x1 x2 ⊢
  clear d0 d1 d2
  go_wp2_with (fail)
  have HA4 := Lib.hid (HA3.out.set a1 (.int .i64 ((a : Int) + 1)) (by rw [h1.out]; simp))
  have hg4 := grownBy_rb hg1 (grownBy_set W1 rb 1 (.int .i64 ((a : Int) + 1)))
  obtain ⟨y0, y1, y2⟩ := HA4.out.cells
  generalize W1.setCell ⟨rb, 1, none⟩ (.int .i64 ((a : Int) + 1)) = W2 at HA4 hg4 y0 y1 y2 ⊢
  clear x0 x1 x2 f1 hlt hu' hn hq hq2 hq3
  have hr : ¬ s.size ≤ a1 := by omega
  have hr2 : ¬ (s.size : Int) ≤ (a1 : Int) := by omega
  have hr3 : (a1 : Int) < (s.size : Int) := by omega
  have ht' : s[a1]'hz = t := HT.out
  go_quiet (fail)
  have HA5 := Lib.hid (HA4.out.drewN nq)
  have hg5 := grownBy_rb hg4 (grownBy_drewN W2 nq (some rb))
  have f5 := HA5.out.frozen 1
  have hlt5 := HA5.out.lt
  obtain ⟨z0, z1, z2⟩ := HA5.out.cells
  generalize W2.drewN nq = W3 at HA5 hg5 f5 hlt5 z0 z1 z2 ⊢
  clear y0 y1 y2
  go_wp2_with (fail)
  go_quiet (fail)
  have HA6 := Lib.hid (HA5.out.drewN nq)
  have hg6 := grownBy_rb hg5 (grownBy_drewN W3 nq (some rb))
  have f6 := HA6.out.frozen 1
  have hlt6 := HA6.out.lt
  obtain ⟨v0, v1, v2⟩ := HA6.out.cells
  generalize W3.drewN nq = W4 at HA6 hg6 f6 hlt6 v0 v1 v2 ⊢
  clear z0 z1 z2 f5 hlt5 hr hr2 hr3
  go_wp2_with (go_at_call 83; (with_reducible refine (hsp W4).mono ?_); rintro e w7 ⟨rfl, hw7⟩; subst hw7)
  have hA7 := HA6.out.set (a + 2) (.int .i64 ((a1 : Int) + 1)) (by rw [h1.out]; simp; omega)
  have hg7 := grownBy_rb hg6 (grownBy_set w7 rb 1 (.int .i64 ((a1 : Int) + 1)))
  exact bodyPost_ret (v := .int .u8 (t.toNat : Int)) (by simp [results, Try.results92, go_sem]; try rfl) rfl ⟨rfl, hA7, hg7⟩
end Go.Proofs.Ytkdfobnkebkpfaa

/- The reference's reader: byte behind a backslash (n, t, r). -/
namespace Go.Proofs.Ytkdfobnkebkpfaa
open Go.RowKit Go.Shelf
attribute [local go_sem] Oper.semAt_some

set_option maxRecDepth 100000 in
set_option maxHeartbeats 1000000 in
theorem rbyte_n (w : World) (rb : Nat) (s : ByteArray) (a : Nat) (hA : RAt w rb s a false) (ha : a < s.size) (hc : s[a] = 92) (a1 : Nat) (h1' : a1 = a + 1) (hz : a1 < s.size) (hw : s[a1] = 110) (hs : s.size ≤ 4096) :
    Calls Try.prog 92 #[.pointer (some ⟨rb, 0, none⟩)] w fun e w' => e = .returned (.int .u8 10) ∧ RAt w' rb s (a + 2) false ∧ w.grownBy w' (some rb) := by
  obtain ⟨c0, c1, c2⟩ := hA.cells
  have hlt := hA.lt
  have HA := Lib.hid hA
  have hq : ¬ s.size ≤ a := by omega
  have hq2 : ¬ (s.size : Int) ≤ (a : Int) := by omega
  have hq3 : (a : Int) < (s.size : Int) := by omega
  obtain ⟨u, hu⟩ : ∃ u, Hid (s[a] = u) := ⟨_, Lib.hid rfl⟩
  have hu' := hu.out
  rw [hu'] at hc
  have hn : ((u.toNat : Int) != 92) = false := by rw [hc]; rfl
  have h1 := Lib.hid h1'
  clear h1'
  obtain ⟨t, HT⟩ : ∃ t, Hid (s[a1]'hz = t) := ⟨_, Lib.hid rfl⟩
  have hw' := hw
  have HTT := HT.out
  rw [HTT] at hw'
  clear HTT
  have hsp : ∀ W : World, Calls Try.prog 83 #[.int .u8 (t.toNat : Int)] W fun e w' => e = .returned (.bool false) ∧ w' = W := fun W => by
    have := special_any t W
    have hb : barB specials t = false := by rw [hw']; decide
    unfold barB at hb
    rw [hb] at this
    exact this
  have q110 : ((t.toNat : Int) == 110) = true := by rw [hw']; rfl
  clear hw hw'
  clear hA hc
  go_enter Try.func92, Try.ntmps92
  go_wp2_with (fail)
  go_quiet (fail)
  have HA2 := Lib.hid (HA.out.drewN nq)
  have hg0 := grownBy_drewN w nq (some rb)
  obtain ⟨d0, d1, d2⟩ := HA2.out.cells
  generalize w.drewN nq = W at HA2 hg0 d0 d1 d2 ⊢
  clear c0 c1 c2 hlt
  go_wp2_with (fail)
  go_quiet (fail)
  have HA3 := Lib.hid (HA2.out.drewN nq)
  have hg1 := grownBy_rb hg0 (grownBy_drewN W nq (some rb))
  have f1 := HA3.out.frozen 1
  have hlt := HA3.out.lt
  obtain ⟨x0, x1, x2⟩ := HA3.out.cells
  generalize W.drewN nq = W1 at HA3 hg1 f1 hlt x0 x1 x2 ⊢
  clear d0 d1 d2
  go_wp2_with (fail)
  have HA4 := Lib.hid (HA3.out.set a1 (.int .i64 ((a : Int) + 1)) (by rw [h1.out]; simp))
  have hg4 := grownBy_rb hg1 (grownBy_set W1 rb 1 (.int .i64 ((a : Int) + 1)))
  obtain ⟨y0, y1, y2⟩ := HA4.out.cells
  generalize W1.setCell ⟨rb, 1, none⟩ (.int .i64 ((a : Int) + 1)) = W2 at HA4 hg4 y0 y1 y2 ⊢
  clear x0 x1 x2 f1 hlt hu' hn hq hq2 hq3
  have hr : ¬ s.size ≤ a1 := by omega
  have hr2 : ¬ (s.size : Int) ≤ (a1 : Int) := by omega
  have hr3 : (a1 : Int) < (s.size : Int) := by omega
  have ht' : s[a1]'hz = t := HT.out
  go_quiet (fail)
  have HA5 := Lib.hid (HA4.out.drewN nq)
  have hg5 := grownBy_rb hg4 (grownBy_drewN W2 nq (some rb))
  have f5 := HA5.out.frozen 1
  have hlt5 := HA5.out.lt
  obtain ⟨z0, z1, z2⟩ := HA5.out.cells
  generalize W2.drewN nq = W3 at HA5 hg5 f5 hlt5 z0 z1 z2 ⊢
  clear y0 y1 y2
  go_wp2_with (fail)
  go_quiet (fail)
  have HA6 := Lib.hid (HA5.out.drewN nq)
  have hg6 := grownBy_rb hg5 (grownBy_drewN W3 nq (some rb))
  have f6 := HA6.out.frozen 1
  have hlt6 := HA6.out.lt
  obtain ⟨v0, v1, v2⟩ := HA6.out.cells
  generalize W3.drewN nq = W4 at HA6 hg6 f6 hlt6 v0 v1 v2 ⊢
  clear z0 z1 z2 f5 hlt5 hr hr2 hr3
  go_wp2_with (go_at_call 83; (with_reducible refine (hsp W4).mono ?_); rintro e w7 ⟨rfl, hw7⟩; subst hw7)
  have hA7 := HA6.out.set (a + 2) (.int .i64 ((a1 : Int) + 1)) (by rw [h1.out]; simp; omega)
  have hg7 := grownBy_rb hg6 (grownBy_set w7 rb 1 (.int .i64 ((a1 : Int) + 1)))
  exact bodyPost_ret (v := .int .u8 10) (by simp [results, Try.results92, go_sem]; try rfl) rfl ⟨rfl, hA7, hg7⟩
set_option maxRecDepth 100000 in
set_option maxHeartbeats 1000000 in
theorem rbyte_t (w : World) (rb : Nat) (s : ByteArray) (a : Nat) (hA : RAt w rb s a false) (ha : a < s.size) (hc : s[a] = 92) (a1 : Nat) (h1' : a1 = a + 1) (hz : a1 < s.size) (hw : s[a1] = 116) (hs : s.size ≤ 4096) :
    Calls Try.prog 92 #[.pointer (some ⟨rb, 0, none⟩)] w fun e w' => e = .returned (.int .u8 9) ∧ RAt w' rb s (a + 2) false ∧ w.grownBy w' (some rb) := by
  obtain ⟨c0, c1, c2⟩ := hA.cells
  have hlt := hA.lt
  have HA := Lib.hid hA
  have hq : ¬ s.size ≤ a := by omega
  have hq2 : ¬ (s.size : Int) ≤ (a : Int) := by omega
  have hq3 : (a : Int) < (s.size : Int) := by omega
  obtain ⟨u, hu⟩ : ∃ u, Hid (s[a] = u) := ⟨_, Lib.hid rfl⟩
  have hu' := hu.out
  rw [hu'] at hc
  have hn : ((u.toNat : Int) != 92) = false := by rw [hc]; rfl
  have h1 := Lib.hid h1'
  clear h1'
  obtain ⟨t, HT⟩ : ∃ t, Hid (s[a1]'hz = t) := ⟨_, Lib.hid rfl⟩
  have hw' := hw
  have HTT := HT.out
  rw [HTT] at hw'
  clear HTT
  have hsp : ∀ W : World, Calls Try.prog 83 #[.int .u8 (t.toNat : Int)] W fun e w' => e = .returned (.bool false) ∧ w' = W := fun W => by
    have := special_any t W
    have hb : barB specials t = false := by rw [hw']; decide
    unfold barB at hb
    rw [hb] at this
    exact this
  have q110 : ((t.toNat : Int) == 110) = false := by rw [hw']; rfl
  have q116 : ((t.toNat : Int) == 116) = true := by rw [hw']; rfl
  clear hw hw'
  clear hA hc
  go_enter Try.func92, Try.ntmps92
  go_wp2_with (fail)
  go_quiet (fail)
  have HA2 := Lib.hid (HA.out.drewN nq)
  have hg0 := grownBy_drewN w nq (some rb)
  obtain ⟨d0, d1, d2⟩ := HA2.out.cells
  generalize w.drewN nq = W at HA2 hg0 d0 d1 d2 ⊢
  clear c0 c1 c2 hlt
  go_wp2_with (fail)
  go_quiet (fail)
  have HA3 := Lib.hid (HA2.out.drewN nq)
  have hg1 := grownBy_rb hg0 (grownBy_drewN W nq (some rb))
  have f1 := HA3.out.frozen 1
  have hlt := HA3.out.lt
  obtain ⟨x0, x1, x2⟩ := HA3.out.cells
  generalize W.drewN nq = W1 at HA3 hg1 f1 hlt x0 x1 x2 ⊢
  clear d0 d1 d2
  go_wp2_with (fail)
  have HA4 := Lib.hid (HA3.out.set a1 (.int .i64 ((a : Int) + 1)) (by rw [h1.out]; simp))
  have hg4 := grownBy_rb hg1 (grownBy_set W1 rb 1 (.int .i64 ((a : Int) + 1)))
  obtain ⟨y0, y1, y2⟩ := HA4.out.cells
  generalize W1.setCell ⟨rb, 1, none⟩ (.int .i64 ((a : Int) + 1)) = W2 at HA4 hg4 y0 y1 y2 ⊢
  clear x0 x1 x2 f1 hlt hu' hn hq hq2 hq3
  have hr : ¬ s.size ≤ a1 := by omega
  have hr2 : ¬ (s.size : Int) ≤ (a1 : Int) := by omega
  have hr3 : (a1 : Int) < (s.size : Int) := by omega
  have ht' : s[a1]'hz = t := HT.out
  go_quiet (fail)
  have HA5 := Lib.hid (HA4.out.drewN nq)
  have hg5 := grownBy_rb hg4 (grownBy_drewN W2 nq (some rb))
  have f5 := HA5.out.frozen 1
  have hlt5 := HA5.out.lt
  obtain ⟨z0, z1, z2⟩ := HA5.out.cells
  generalize W2.drewN nq = W3 at HA5 hg5 f5 hlt5 z0 z1 z2 ⊢
  clear y0 y1 y2
  go_wp2_with (fail)
  go_quiet (fail)
  have HA6 := Lib.hid (HA5.out.drewN nq)
  have hg6 := grownBy_rb hg5 (grownBy_drewN W3 nq (some rb))
  have f6 := HA6.out.frozen 1
  have hlt6 := HA6.out.lt
  obtain ⟨v0, v1, v2⟩ := HA6.out.cells
  generalize W3.drewN nq = W4 at HA6 hg6 f6 hlt6 v0 v1 v2 ⊢
  clear z0 z1 z2 f5 hlt5 hr hr2 hr3
  go_wp2_with (go_at_call 83; (with_reducible refine (hsp W4).mono ?_); rintro e w7 ⟨rfl, hw7⟩; subst hw7)
  have hA7 := HA6.out.set (a + 2) (.int .i64 ((a1 : Int) + 1)) (by rw [h1.out]; simp; omega)
  have hg7 := grownBy_rb hg6 (grownBy_set w7 rb 1 (.int .i64 ((a1 : Int) + 1)))
  exact bodyPost_ret (v := .int .u8 9) (by simp [results, Try.results92, go_sem]; try rfl) rfl ⟨rfl, hA7, hg7⟩
set_option maxRecDepth 100000 in
set_option maxHeartbeats 1000000 in
theorem rbyte_r (w : World) (rb : Nat) (s : ByteArray) (a : Nat) (hA : RAt w rb s a false) (ha : a < s.size) (hc : s[a] = 92) (a1 : Nat) (h1' : a1 = a + 1) (hz : a1 < s.size) (hw : s[a1] = 114) (hs : s.size ≤ 4096) :
    Calls Try.prog 92 #[.pointer (some ⟨rb, 0, none⟩)] w fun e w' => e = .returned (.int .u8 13) ∧ RAt w' rb s (a + 2) false ∧ w.grownBy w' (some rb) := by
  obtain ⟨c0, c1, c2⟩ := hA.cells
  have hlt := hA.lt
  have HA := Lib.hid hA
  have hq : ¬ s.size ≤ a := by omega
  have hq2 : ¬ (s.size : Int) ≤ (a : Int) := by omega
  have hq3 : (a : Int) < (s.size : Int) := by omega
  obtain ⟨u, hu⟩ : ∃ u, Hid (s[a] = u) := ⟨_, Lib.hid rfl⟩
  have hu' := hu.out
  rw [hu'] at hc
  have hn : ((u.toNat : Int) != 92) = false := by rw [hc]; rfl
  have h1 := Lib.hid h1'
  clear h1'
  obtain ⟨t, HT⟩ : ∃ t, Hid (s[a1]'hz = t) := ⟨_, Lib.hid rfl⟩
  have hw' := hw
  have HTT := HT.out
  rw [HTT] at hw'
  clear HTT
  have hsp : ∀ W : World, Calls Try.prog 83 #[.int .u8 (t.toNat : Int)] W fun e w' => e = .returned (.bool false) ∧ w' = W := fun W => by
    have := special_any t W
    have hb : barB specials t = false := by rw [hw']; decide
    unfold barB at hb
    rw [hb] at this
    exact this
  have q110 : ((t.toNat : Int) == 110) = false := by rw [hw']; rfl
  have q116 : ((t.toNat : Int) == 116) = false := by rw [hw']; rfl
  have q114 : ((t.toNat : Int) == 114) = true := by rw [hw']; rfl
  clear hw hw'
  clear hA hc
  go_enter Try.func92, Try.ntmps92
  go_wp2_with (fail)
  go_quiet (fail)
  have HA2 := Lib.hid (HA.out.drewN nq)
  have hg0 := grownBy_drewN w nq (some rb)
  obtain ⟨d0, d1, d2⟩ := HA2.out.cells
  generalize w.drewN nq = W at HA2 hg0 d0 d1 d2 ⊢
  clear c0 c1 c2 hlt
  go_wp2_with (fail)
  go_quiet (fail)
  have HA3 := Lib.hid (HA2.out.drewN nq)
  have hg1 := grownBy_rb hg0 (grownBy_drewN W nq (some rb))
  have f1 := HA3.out.frozen 1
  have hlt := HA3.out.lt
  obtain ⟨x0, x1, x2⟩ := HA3.out.cells
  generalize W.drewN nq = W1 at HA3 hg1 f1 hlt x0 x1 x2 ⊢
  clear d0 d1 d2
  go_wp2_with (fail)
  have HA4 := Lib.hid (HA3.out.set a1 (.int .i64 ((a : Int) + 1)) (by rw [h1.out]; simp))
  have hg4 := grownBy_rb hg1 (grownBy_set W1 rb 1 (.int .i64 ((a : Int) + 1)))
  obtain ⟨y0, y1, y2⟩ := HA4.out.cells
  generalize W1.setCell ⟨rb, 1, none⟩ (.int .i64 ((a : Int) + 1)) = W2 at HA4 hg4 y0 y1 y2 ⊢
  clear x0 x1 x2 f1 hlt hu' hn hq hq2 hq3
  have hr : ¬ s.size ≤ a1 := by omega
  have hr2 : ¬ (s.size : Int) ≤ (a1 : Int) := by omega
  have hr3 : (a1 : Int) < (s.size : Int) := by omega
  have ht' : s[a1]'hz = t := HT.out
  go_quiet (fail)
  have HA5 := Lib.hid (HA4.out.drewN nq)
  have hg5 := grownBy_rb hg4 (grownBy_drewN W2 nq (some rb))
  have f5 := HA5.out.frozen 1
  have hlt5 := HA5.out.lt
  obtain ⟨z0, z1, z2⟩ := HA5.out.cells
  generalize W2.drewN nq = W3 at HA5 hg5 f5 hlt5 z0 z1 z2 ⊢
  clear y0 y1 y2
  go_wp2_with (fail)
  go_quiet (fail)
  have HA6 := Lib.hid (HA5.out.drewN nq)
  have hg6 := grownBy_rb hg5 (grownBy_drewN W3 nq (some rb))
  have f6 := HA6.out.frozen 1
  have hlt6 := HA6.out.lt
  obtain ⟨v0, v1, v2⟩ := HA6.out.cells
  generalize W3.drewN nq = W4 at HA6 hg6 f6 hlt6 v0 v1 v2 ⊢
  clear z0 z1 z2 f5 hlt5 hr hr2 hr3
  go_wp2_with (go_at_call 83; (with_reducible refine (hsp W4).mono ?_); rintro e w7 ⟨rfl, hw7⟩; subst hw7)
  have hA7 := HA6.out.set (a + 2) (.int .i64 ((a1 : Int) + 1)) (by rw [h1.out]; simp; omega)
  have hg7 := grownBy_rb hg6 (grownBy_set w7 rb 1 (.int .i64 ((a1 : Int) + 1)))
  exact bodyPost_ret (v := .int .u8 13) (by simp [results, Try.results92, go_sem]; try rfl) rfl ⟨rfl, hA7, hg7⟩
end Go.Proofs.Ytkdfobnkebkpfaa

/- The reference's reader: byte behind a backslash (any other). -/
namespace Go.Proofs.Ytkdfobnkebkpfaa
open Go.RowKit Go.Shelf
attribute [local go_sem] Oper.semAt_some

set_option maxRecDepth 100000 in
set_option maxHeartbeats 1000000 in
theorem rbyte_o (w : World) (rb : Nat) (s : ByteArray) (a : Nat) (hA : RAt w rb s a false) (ha : a < s.size) (hc : s[a] = 92) (a1 : Nat) (h1' : a1 = a + 1) (hz : a1 < s.size) (hw : barB specials s[a1] = false ∧ s[a1] ≠ 110 ∧ s[a1] ≠ 116 ∧ s[a1] ≠ 114 ∧ s[a1] ≠ 120) (hs : s.size ≤ 4096) :
    Calls Try.prog 92 #[.pointer (some ⟨rb, 0, none⟩)] w (RBad w rb s a1) := by
  unfold RBad
  obtain ⟨c0, c1, c2⟩ := hA.cells
  have hlt := hA.lt
  have HA := Lib.hid hA
  have hq : ¬ s.size ≤ a := by omega
  have hq2 : ¬ (s.size : Int) ≤ (a : Int) := by omega
  have hq3 : (a : Int) < (s.size : Int) := by omega
  obtain ⟨u, hu⟩ : ∃ u, Hid (s[a] = u) := ⟨_, Lib.hid rfl⟩
  have hu' := hu.out
  rw [hu'] at hc
  have hn : ((u.toNat : Int) != 92) = false := by rw [hc]; rfl
  have h1 := Lib.hid h1'
  clear h1'
  obtain ⟨t, HT⟩ : ∃ t, Hid (s[a1]'hz = t) := ⟨_, Lib.hid rfl⟩
  have hw' := hw
  have HTT := HT.out
  rw [HTT] at hw'
  clear HTT
  have hsp : ∀ W : World, Calls Try.prog 83 #[.int .u8 (t.toNat : Int)] W fun e w' => e = .returned (.bool false) ∧ w' = W := fun W => by
    have := special_any t W
    unfold barB at hw'
    rw [hw'.1] at this
    exact this
  have q110 : ((t.toNat : Int) == 110) = false := by rw [beq_eq_false_iff_ne]; intro e; exact hw'.2.1 (UInt8.toNat_inj.1 (by show t.toNat = 110; omega))
  have q116 : ((t.toNat : Int) == 116) = false := by rw [beq_eq_false_iff_ne]; intro e; exact hw'.2.2.1 (UInt8.toNat_inj.1 (by show t.toNat = 116; omega))
  have q114 : ((t.toNat : Int) == 114) = false := by rw [beq_eq_false_iff_ne]; intro e; exact hw'.2.2.2.1 (UInt8.toNat_inj.1 (by show t.toNat = 114; omega))
  have q120 : ((t.toNat : Int) == 120) = false := by rw [beq_eq_false_iff_ne]; intro e; exact hw'.2.2.2.2 (UInt8.toNat_inj.1 (by show t.toNat = 120; omega))
  clear hw hw'
  clear hA hc
  go_enter Try.func92, Try.ntmps92
  go_wp2_with (fail)
  go_quiet (fail)
  have HA2 := Lib.hid (HA.out.drewN nq)
  have hg0 := grownBy_drewN w nq (some rb)
  obtain ⟨d0, d1, d2⟩ := HA2.out.cells
  generalize w.drewN nq = W at HA2 hg0 d0 d1 d2 ⊢
  clear c0 c1 c2 hlt
  go_wp2_with (fail)
  go_quiet (fail)
  have HA3 := Lib.hid (HA2.out.drewN nq)
  have hg1 := grownBy_rb hg0 (grownBy_drewN W nq (some rb))
  have f1 := HA3.out.frozen 1
  have hlt := HA3.out.lt
  obtain ⟨x0, x1, x2⟩ := HA3.out.cells
  generalize W.drewN nq = W1 at HA3 hg1 f1 hlt x0 x1 x2 ⊢
  clear d0 d1 d2
  go_wp2_with (fail)
  have HA4 := Lib.hid (HA3.out.set a1 (.int .i64 ((a : Int) + 1)) (by rw [h1.out]; simp))
  have hg4 := grownBy_rb hg1 (grownBy_set W1 rb 1 (.int .i64 ((a : Int) + 1)))
  obtain ⟨y0, y1, y2⟩ := HA4.out.cells
  generalize W1.setCell ⟨rb, 1, none⟩ (.int .i64 ((a : Int) + 1)) = W2 at HA4 hg4 y0 y1 y2 ⊢
  clear x0 x1 x2 f1 hlt hu' hn hq hq2 hq3
  have hr : ¬ s.size ≤ a1 := by omega
  have hr2 : ¬ (s.size : Int) ≤ (a1 : Int) := by omega
  have hr3 : (a1 : Int) < (s.size : Int) := by omega
  have ht' : s[a1]'hz = t := HT.out
  go_quiet (fail)
  have HA5 := Lib.hid (HA4.out.drewN nq)
  have hg5 := grownBy_rb hg4 (grownBy_drewN W2 nq (some rb))
  have f5 := HA5.out.frozen 1
  have hlt5 := HA5.out.lt
  obtain ⟨z0, z1, z2⟩ := HA5.out.cells
  generalize W2.drewN nq = W3 at HA5 hg5 f5 hlt5 z0 z1 z2 ⊢
  clear y0 y1 y2
  go_wp2_with (fail)
  go_quiet (fail)
  have HA6 := Lib.hid (HA5.out.drewN nq)
  have hg6 := grownBy_rb hg5 (grownBy_drewN W3 nq (some rb))
  have f6 := HA6.out.frozen 1
  have hlt6 := HA6.out.lt
  obtain ⟨v0, v1, v2⟩ := HA6.out.cells
  generalize W3.drewN nq = W4 at HA6 hg6 f6 hlt6 v0 v1 v2 ⊢
  clear z0 z1 z2 f5 hlt5 hr hr2 hr3
  have hf := rfail_any W4 rb s a1 false HA6.out
  go_wp2_with (first
    | (go_at_call 83; (with_reducible refine (hsp W4).mono ?_); rintro e w7 ⟨rfl, hw7⟩; subst hw7)
    | (go_at_call 43; (with_reducible refine hf.mono ?_); rintro e w8 ⟨rfl, h8, g8⟩))
  exact bodyPost_ret (v := .int .u8 0) (by simp [results, Try.results92, go_sem]; try rfl) rfl ⟨rfl, h8, grownBy_rb hg6 g8⟩
end Go.Proofs.Ytkdfobnkebkpfaa

/- The reference's reader: hex, whole; byte behind a backslash and an x. -/
namespace Go.Proofs.Ytkdfobnkebkpfaa
open Go.RowKit Go.Shelf
attribute [local go_sem] Oper.semAt_some

/-- What hex comes to. -/
def HexA (w : World) (rb : Nat) (s : ByteArray) (a : Nat) (X : Rd UInt8) (e : Ending) (w' : World) : Prop :=
  match X with
  | .ok v r => e = .returned (.int .i64 (v.toNat : Int)) ∧ v.toNat < 16 ∧ Suf s (a + 1) r ∧ RAt w' rb s (a + 1) false ∧ w.grownBy w' (some rb)
  | .bad r => e = .returned (.int .i64 0) ∧ Suf s a r ∧ RAt w' rb s a true ∧ w.grownBy w' (some rb)
theorem rhex_any (w : World) (rb : Nat) (s : ByteArray) (a : Nat) (r : List UInt8) (hA : RAt w rb s a false) (hS : Suf s a r) (hs : s.size ≤ 4096) :
    Calls Try.prog 97 #[.pointer (some ⟨rb, 0, none⟩)] w (HexA w rb s a (digitP r)) := by
  rcases hS.head with ⟨ha, rfl⟩ | ⟨hlt, r1, rfl, hS1⟩
  · refine (rhex_end w rb s a hA ha hs).mono ?_
    rintro e w' ⟨rfl, h1, h2⟩
    exact ⟨rfl, hS, h1, h2⟩
  · cases hv : hexV s[a] with
    | none =>
      refine (rhex_no w rb s a hA hlt (by unfold digI; rw [hv]; decide) hs).mono ?_
      rintro e w' ⟨rfl, h1, h2⟩
      have e : digitP (s[a] :: r1) = .bad (s[a] :: r1) := by simp only [digitP, hv]
      rw [e]
      exact ⟨rfl, hS, h1, h2⟩
    | some v =>
      refine (rhex_ok w rb s a hA hlt (by unfold digI; rw [hv]; show 0 ≤ (v.toNat : Int); omega) hs).mono ?_
      rintro e w' ⟨rfl, h1, h2⟩
      have e : digitP (s[a] :: r1) = .ok v r1 := by simp only [digitP, hv]
      rw [e]
      exact ⟨by unfold digI; rw [hv], hexV_lt hv, hS1, h1, h2⟩

set_option maxRecDepth 100000 in
set_option maxHeartbeats 1000000 in
theorem rbyte_x1 (w : World) (rb : Nat) (s : ByteArray) (a : Nat) (hA : RAt w rb s a false) (ha : a < s.size) (hc : s[a] = 92) (a1 : Nat) (h1' : a1 = a + 1) (hz : a1 < s.size) (hw : s[a1] = 120) (r r1 : List UInt8) (hS : Suf s (a + 2) r) (hd : digitP r = .bad r1) (hs : s.size ≤ 4096) :
    Calls Try.prog 92 #[.pointer (some ⟨rb, 0, none⟩)] w (fun e w' => e = .returned (.int .u8 0) ∧ Suf s (a + 2) r1 ∧ RAt w' rb s (a + 2) true ∧ w.grownBy w' (some rb)) := by
  obtain ⟨c0, c1, c2⟩ := hA.cells
  have hlt := hA.lt
  have HA := Lib.hid hA
  have hq : ¬ s.size ≤ a := by omega
  have hq2 : ¬ (s.size : Int) ≤ (a : Int) := by omega
  have hq3 : (a : Int) < (s.size : Int) := by omega
  obtain ⟨u, hu⟩ : ∃ u, Hid (s[a] = u) := ⟨_, Lib.hid rfl⟩
  have hu' := hu.out
  rw [hu'] at hc
  have hn : ((u.toNat : Int) != 92) = false := by rw [hc]; rfl
  have h1 := Lib.hid h1'
  clear h1'
  obtain ⟨t, HT⟩ : ∃ t, Hid (s[a1]'hz = t) := ⟨_, Lib.hid rfl⟩
  have hw' := hw
  have HTT := HT.out
  rw [HTT] at hw'
  clear HTT
  have hsp : ∀ W : World, Calls Try.prog 83 #[.int .u8 (t.toNat : Int)] W fun e w' => e = .returned (.bool false) ∧ w' = W := fun W => by
    have := special_any t W
    have hb : barB specials t = false := by rw [hw']; decide
    unfold barB at hb
    rw [hb] at this
    exact this
  have q110 : ((t.toNat : Int) == 110) = false := by rw [hw']; rfl
  have q116 : ((t.toNat : Int) == 116) = false := by rw [hw']; rfl
  have q114 : ((t.toNat : Int) == 114) = false := by rw [hw']; rfl
  have q120 : ((t.toNat : Int) == 120) = true := by rw [hw']; rfl
  clear hw hw'
  clear hA hc
  go_enter Try.func92, Try.ntmps92
  go_wp2_with (fail)
  go_quiet (fail)
  have HA2 := Lib.hid (HA.out.drewN nq)
  have hg0 := grownBy_drewN w nq (some rb)
  obtain ⟨d0, d1, d2⟩ := HA2.out.cells
  generalize w.drewN nq = W at HA2 hg0 d0 d1 d2 ⊢
  clear c0 c1 c2 hlt
  go_wp2_with (fail)
  go_quiet (fail)
  have HA3 := Lib.hid (HA2.out.drewN nq)
  have hg1 := grownBy_rb hg0 (grownBy_drewN W nq (some rb))
  have f1 := HA3.out.frozen 1
  have hlt := HA3.out.lt
  obtain ⟨x0, x1, x2⟩ := HA3.out.cells
  generalize W.drewN nq = W1 at HA3 hg1 f1 hlt x0 x1 x2 ⊢
  clear d0 d1 d2
  go_wp2_with (fail)
  have HA4 := Lib.hid (HA3.out.set a1 (.int .i64 ((a : Int) + 1)) (by rw [h1.out]; simp))
  have hg4 := grownBy_rb hg1 (grownBy_set W1 rb 1 (.int .i64 ((a : Int) + 1)))
  obtain ⟨y0, y1, y2⟩ := HA4.out.cells
  generalize W1.setCell ⟨rb, 1, none⟩ (.int .i64 ((a : Int) + 1)) = W2 at HA4 hg4 y0 y1 y2 ⊢
  clear x0 x1 x2 f1 hlt hu' hn hq hq2 hq3
  have hr : ¬ s.size ≤ a1 := by omega
  have hr2 : ¬ (s.size : Int) ≤ (a1 : Int) := by omega
  have hr3 : (a1 : Int) < (s.size : Int) := by omega
  have ht' : s[a1]'hz = t := HT.out
  go_quiet (fail)
  have HA5 := Lib.hid (HA4.out.drewN nq)
  have hg5 := grownBy_rb hg4 (grownBy_drewN W2 nq (some rb))
  have f5 := HA5.out.frozen 1
  have hlt5 := HA5.out.lt
  obtain ⟨z0, z1, z2⟩ := HA5.out.cells
  generalize W2.drewN nq = W3 at HA5 hg5 f5 hlt5 z0 z1 z2 ⊢
  clear y0 y1 y2
  go_wp2_with (fail)
  go_quiet (fail)
  have HA6 := Lib.hid (HA5.out.drewN nq)
  have hg6 := grownBy_rb hg5 (grownBy_drewN W3 nq (some rb))
  have f6 := HA6.out.frozen 1
  have hlt6 := HA6.out.lt
  obtain ⟨v0, v1, v2⟩ := HA6.out.cells
  generalize W3.drewN nq = W4 at HA6 hg6 f6 hlt6 v0 v1 v2 ⊢
  clear z0 z1 z2 f5 hlt5 hr hr2 hr3
  have HA7 := Lib.hid ((HA6.out.set (a + 2) (.int .i64 ((a1 : Int) + 1)) (by rw [h1.out]; simp; omega)))
  have hg7 := grownBy_rb hg6 (grownBy_set W4 rb 1 (.int .i64 ((a1 : Int) + 1)))
  have hx := rhex_any (W4.setCell ⟨rb, 1, none⟩ (.int .i64 ((a1 : Int) + 1))) rb s (a + 2) r HA7.out hS hs
  rw [hd] at hx
  go_wp2_with (first
    | (go_at_call 83; (with_reducible refine (hsp W4).mono ?_); rintro e w7 ⟨rfl, hw7⟩; subst hw7)
    | (go_at_call 97; (with_reducible refine hx.mono ?_); rintro e w8 ⟨rfl, hs8, h8, g8⟩)
    | (go_at_call 97; (with_reducible refine (rhex_bad w8 rb s (a + 2) h8).mono ?_); rintro e w9 ⟨rfl, h9, g9⟩))
  exact bodyPost_ret (v := .int .u8 0) (by simp [results, Try.results92, go_sem]; try rfl) rfl ⟨rfl, hs8, h9, grownBy_rb (grownBy_rb hg7 g8) g9⟩
set_option maxRecDepth 100000 in
set_option maxHeartbeats 1000000 in
theorem rbyte_x2 (w : World) (rb : Nat) (s : ByteArray) (a : Nat) (hA : RAt w rb s a false) (ha : a < s.size) (hc : s[a] = 92) (a1 : Nat) (h1' : a1 = a + 1) (hz : a1 < s.size) (hw : s[a1] = 120) (r r1 r2 : List UInt8) (v : UInt8) (hS : Suf s (a + 2) r) (hd : digitP r = .ok v r1) (hd2 : digitP r1 = .bad r2) (hs : s.size ≤ 4096) :
    Calls Try.prog 92 #[.pointer (some ⟨rb, 0, none⟩)] w (fun e w' => (∃ v : UInt8, e = .returned (.int .u8 (v.toNat : Int))) ∧ Suf s (a + 3) r2 ∧ RAt w' rb s (a + 3) true ∧ w.grownBy w' (some rb)) := by
  obtain ⟨c0, c1, c2⟩ := hA.cells
  have hlt := hA.lt
  have HA := Lib.hid hA
  have hq : ¬ s.size ≤ a := by omega
  have hq2 : ¬ (s.size : Int) ≤ (a : Int) := by omega
  have hq3 : (a : Int) < (s.size : Int) := by omega
  obtain ⟨u, hu⟩ : ∃ u, Hid (s[a] = u) := ⟨_, Lib.hid rfl⟩
  have hu' := hu.out
  rw [hu'] at hc
  have hn : ((u.toNat : Int) != 92) = false := by rw [hc]; rfl
  have h1 := Lib.hid h1'
  clear h1'
  obtain ⟨t, HT⟩ : ∃ t, Hid (s[a1]'hz = t) := ⟨_, Lib.hid rfl⟩
  have hw' := hw
  have HTT := HT.out
  rw [HTT] at hw'
  clear HTT
  have hsp : ∀ W : World, Calls Try.prog 83 #[.int .u8 (t.toNat : Int)] W fun e w' => e = .returned (.bool false) ∧ w' = W := fun W => by
    have := special_any t W
    have hb : barB specials t = false := by rw [hw']; decide
    unfold barB at hb
    rw [hb] at this
    exact this
  have q110 : ((t.toNat : Int) == 110) = false := by rw [hw']; rfl
  have q116 : ((t.toNat : Int) == 116) = false := by rw [hw']; rfl
  have q114 : ((t.toNat : Int) == 114) = false := by rw [hw']; rfl
  have q120 : ((t.toNat : Int) == 120) = true := by rw [hw']; rfl
  clear hw hw'
  clear hA hc
  go_enter Try.func92, Try.ntmps92
  go_wp2_with (fail)
  go_quiet (fail)
  have HA2 := Lib.hid (HA.out.drewN nq)
  have hg0 := grownBy_drewN w nq (some rb)
  obtain ⟨d0, d1, d2⟩ := HA2.out.cells
  generalize w.drewN nq = W at HA2 hg0 d0 d1 d2 ⊢
  clear c0 c1 c2 hlt
  go_wp2_with (fail)
  go_quiet (fail)
  have HA3 := Lib.hid (HA2.out.drewN nq)
  have hg1 := grownBy_rb hg0 (grownBy_drewN W nq (some rb))
  have f1 := HA3.out.frozen 1
  have hlt := HA3.out.lt
  obtain ⟨x0, x1, x2⟩ := HA3.out.cells
  generalize W.drewN nq = W1 at HA3 hg1 f1 hlt x0 x1 x2 ⊢
  clear d0 d1 d2
  go_wp2_with (fail)
  have HA4 := Lib.hid (HA3.out.set a1 (.int .i64 ((a : Int) + 1)) (by rw [h1.out]; simp))
  have hg4 := grownBy_rb hg1 (grownBy_set W1 rb 1 (.int .i64 ((a : Int) + 1)))
  obtain ⟨y0, y1, y2⟩ := HA4.out.cells
  generalize W1.setCell ⟨rb, 1, none⟩ (.int .i64 ((a : Int) + 1)) = W2 at HA4 hg4 y0 y1 y2 ⊢
  clear x0 x1 x2 f1 hlt hu' hn hq hq2 hq3
  have hr : ¬ s.size ≤ a1 := by omega
  have hr2 : ¬ (s.size : Int) ≤ (a1 : Int) := by omega
  have hr3 : (a1 : Int) < (s.size : Int) := by omega
  have ht' : s[a1]'hz = t := HT.out
  go_quiet (fail)
  have HA5 := Lib.hid (HA4.out.drewN nq)
  have hg5 := grownBy_rb hg4 (grownBy_drewN W2 nq (some rb))
  have f5 := HA5.out.frozen 1
  have hlt5 := HA5.out.lt
  obtain ⟨z0, z1, z2⟩ := HA5.out.cells
  generalize W2.drewN nq = W3 at HA5 hg5 f5 hlt5 z0 z1 z2 ⊢
  clear y0 y1 y2
  go_wp2_with (fail)
  go_quiet (fail)
  have HA6 := Lib.hid (HA5.out.drewN nq)
  have hg6 := grownBy_rb hg5 (grownBy_drewN W3 nq (some rb))
  have f6 := HA6.out.frozen 1
  have hlt6 := HA6.out.lt
  obtain ⟨v0, v1, v2⟩ := HA6.out.cells
  generalize W3.drewN nq = W4 at HA6 hg6 f6 hlt6 v0 v1 v2 ⊢
  clear z0 z1 z2 f5 hlt5 hr hr2 hr3
  have HA7 := Lib.hid ((HA6.out.set (a + 2) (.int .i64 ((a1 : Int) + 1)) (by rw [h1.out]; simp; omega)))
  have hg7 := grownBy_rb hg6 (grownBy_set W4 rb 1 (.int .i64 ((a1 : Int) + 1)))
  have hx := rhex_any (W4.setCell ⟨rb, 1, none⟩ (.int .i64 ((a1 : Int) + 1))) rb s (a + 2) r HA7.out hS hs
  rw [hd] at hx
  have HD2 := Lib.hid hd2
  clear hd hd2
  go_wp2_with (first
    | (go_at_call 83; (with_reducible refine (hsp W4).mono ?_); rintro e w7 ⟨rfl, hw7⟩; subst hw7)
    | (go_at_call 97; (with_reducible refine hx.mono ?_); rintro e w8 ⟨rfl, hv8, hs8, h8, g8⟩; have hy := rhex_any w8 rb s (a + 2 + 1) r1 h8 hs8 hs; rw [HD2.out] at hy)
    | (go_at_call 97; (with_reducible refine hy.mono ?_); rintro e w9 ⟨rfl, hs9, h9, g9⟩))
  exact bodyPost_ret (v := .int .u8 ((UInt8.ofNat (16 * v.toNat)).toNat : Int)) (by simp [results, Try.results92, go_sem]; omega) rfl ⟨⟨_, rfl⟩, hs9, h9, grownBy_rb (grownBy_rb hg7 g8) g9⟩
set_option maxRecDepth 100000 in
set_option maxHeartbeats 1000000 in
theorem rbyte_x3 (w : World) (rb : Nat) (s : ByteArray) (a : Nat) (hA : RAt w rb s a false) (ha : a < s.size) (hc : s[a] = 92) (a1 : Nat) (h1' : a1 = a + 1) (hz : a1 < s.size) (hw : s[a1] = 120) (r r1 r2 : List UInt8) (v v9 : UInt8) (hS : Suf s (a + 2) r) (hd : digitP r = .ok v r1) (hd2 : digitP r1 = .ok v9 r2) (hs : s.size ≤ 4096) :
    Calls Try.prog 92 #[.pointer (some ⟨rb, 0, none⟩)] w (fun e w' => e = .returned (.int .u8 ((UInt8.ofNat (16 * v.toNat + v9.toNat)).toNat : Int)) ∧ Suf s (a + 4) r2 ∧ RAt w' rb s (a + 4) false ∧ w.grownBy w' (some rb)) := by
  obtain ⟨c0, c1, c2⟩ := hA.cells
  have hlt := hA.lt
  have HA := Lib.hid hA
  have hq : ¬ s.size ≤ a := by omega
  have hq2 : ¬ (s.size : Int) ≤ (a : Int) := by omega
  have hq3 : (a : Int) < (s.size : Int) := by omega
  obtain ⟨u, hu⟩ : ∃ u, Hid (s[a] = u) := ⟨_, Lib.hid rfl⟩
  have hu' := hu.out
  rw [hu'] at hc
  have hn : ((u.toNat : Int) != 92) = false := by rw [hc]; rfl
  have h1 := Lib.hid h1'
  clear h1'
  obtain ⟨t, HT⟩ : ∃ t, Hid (s[a1]'hz = t) := ⟨_, Lib.hid rfl⟩
  have hw' := hw
  have HTT := HT.out
  rw [HTT] at hw'
  clear HTT
  have hsp : ∀ W : World, Calls Try.prog 83 #[.int .u8 (t.toNat : Int)] W fun e w' => e = .returned (.bool false) ∧ w' = W := fun W => by
    have := special_any t W
    have hb : barB specials t = false := by rw [hw']; decide
    unfold barB at hb
    rw [hb] at this
    exact this
  have q110 : ((t.toNat : Int) == 110) = false := by rw [hw']; rfl
  have q116 : ((t.toNat : Int) == 116) = false := by rw [hw']; rfl
  have q114 : ((t.toNat : Int) == 114) = false := by rw [hw']; rfl
  have q120 : ((t.toNat : Int) == 120) = true := by rw [hw']; rfl
  clear hw hw'
  clear hA hc
  go_enter Try.func92, Try.ntmps92
  go_wp2_with (fail)
  go_quiet (fail)
  have HA2 := Lib.hid (HA.out.drewN nq)
  have hg0 := grownBy_drewN w nq (some rb)
  obtain ⟨d0, d1, d2⟩ := HA2.out.cells
  generalize w.drewN nq = W at HA2 hg0 d0 d1 d2 ⊢
  clear c0 c1 c2 hlt
  go_wp2_with (fail)
  go_quiet (fail)
  have HA3 := Lib.hid (HA2.out.drewN nq)
  have hg1 := grownBy_rb hg0 (grownBy_drewN W nq (some rb))
  have f1 := HA3.out.frozen 1
  have hlt := HA3.out.lt
  obtain ⟨x0, x1, x2⟩ := HA3.out.cells
  generalize W.drewN nq = W1 at HA3 hg1 f1 hlt x0 x1 x2 ⊢
  clear d0 d1 d2
  go_wp2_with (fail)
  have HA4 := Lib.hid (HA3.out.set a1 (.int .i64 ((a : Int) + 1)) (by rw [h1.out]; simp))
  have hg4 := grownBy_rb hg1 (grownBy_set W1 rb 1 (.int .i64 ((a : Int) + 1)))
  obtain ⟨y0, y1, y2⟩ := HA4.out.cells
  generalize W1.setCell ⟨rb, 1, none⟩ (.int .i64 ((a : Int) + 1)) = W2 at HA4 hg4 y0 y1 y2 ⊢
  clear x0 x1 x2 f1 hlt hu' hn hq hq2 hq3
  have hr : ¬ s.size ≤ a1 := by omega
  have hr2 : ¬ (s.size : Int) ≤ (a1 : Int) := by omega
  have hr3 : (a1 : Int) < (s.size : Int) := by omega
  have ht' : s[a1]'hz = t := HT.out
  go_quiet (fail)
  have HA5 := Lib.hid (HA4.out.drewN nq)
  have hg5 := grownBy_rb hg4 (grownBy_drewN W2 nq (some rb))
  have f5 := HA5.out.frozen 1
  have hlt5 := HA5.out.lt
  obtain ⟨z0, z1, z2⟩ := HA5.out.cells
  generalize W2.drewN nq = W3 at HA5 hg5 f5 hlt5 z0 z1 z2 ⊢
  clear y0 y1 y2
  go_wp2_with (fail)
  go_quiet (fail)
  have HA6 := Lib.hid (HA5.out.drewN nq)
  have hg6 := grownBy_rb hg5 (grownBy_drewN W3 nq (some rb))
  have f6 := HA6.out.frozen 1
  have hlt6 := HA6.out.lt
  obtain ⟨v0, v1, v2⟩ := HA6.out.cells
  generalize W3.drewN nq = W4 at HA6 hg6 f6 hlt6 v0 v1 v2 ⊢
  clear z0 z1 z2 f5 hlt5 hr hr2 hr3
  have HA7 := Lib.hid ((HA6.out.set (a + 2) (.int .i64 ((a1 : Int) + 1)) (by rw [h1.out]; simp; omega)))
  have hg7 := grownBy_rb hg6 (grownBy_set W4 rb 1 (.int .i64 ((a1 : Int) + 1)))
  have hx := rhex_any (W4.setCell ⟨rb, 1, none⟩ (.int .i64 ((a1 : Int) + 1))) rb s (a + 2) r HA7.out hS hs
  rw [hd] at hx
  have HD2 := Lib.hid hd2
  clear hd hd2
  go_wp2_with (first
    | (go_at_call 83; (with_reducible refine (hsp W4).mono ?_); rintro e w7 ⟨rfl, hw7⟩; subst hw7)
    | (go_at_call 97; (with_reducible refine hx.mono ?_); rintro e w8 ⟨rfl, hv8, hs8, h8, g8⟩; have hy := rhex_any w8 rb s (a + 2 + 1) r1 h8 hs8 hs; rw [HD2.out] at hy)
    | (go_at_call 97; (with_reducible refine hy.mono ?_); rintro e w9 ⟨rfl, hv9, hs9, h9, g9⟩))
  exact bodyPost_ret (v := .int .u8 ((UInt8.ofNat (16 * v.toNat + v9.toNat)).toNat : Int)) (by simp [results, Try.results92, go_sem]; omega) rfl ⟨rfl, hs9, h9, grownBy_rb (grownBy_rb hg7 g8) g9⟩
end Go.Proofs.Ytkdfobnkebkpfaa

/- The reference's reader: byte, whole. -/
namespace Go.Proofs.Ytkdfobnkebkpfaa
open Go.RowKit Go.Shelf

/-- What the reference's reader comes to: what was read; or it has given up there, and returns anything. -/
def RA {α : Type} (V : α → World → Value → Prop) (J : Value → Prop) (w : World) (rb : Nat) (s : ByteArray) (X : Rd α) (e : Ending) (w' : World) : Prop :=
  match X with
  | .ok c r => ∃ a val, e = .returned val ∧ V c w' val ∧ Suf s a r ∧ RAt w' rb s a false ∧ w.grownBy w' (some rb)
  | .bad r => ∃ a val, e = .returned val ∧ J val ∧ Suf s a r ∧ RAt w' rb s a true ∧ w.grownBy w' (some rb)
theorem RA.parts {α : Type} {V : α → World → Value → Prop} {J : Value → Prop} {w : World} {rb : Nat} {s : ByteArray} {X : Rd α} {e : Ending} {w' : World} (h : RA V J w rb s X e w') :
    (∃ c r a val, X = .ok c r ∧ e = .returned val ∧ V c w' val ∧ Suf s a r ∧ RAt w' rb s a false ∧ w.grownBy w' (some rb)) ∨ (∃ r a val, X = .bad r ∧ e = .returned val ∧ J val ∧ Suf s a r ∧ RAt w' rb s a true ∧ w.grownBy w' (some rb)) := by
  cases X with
  | ok c r => obtain ⟨a, val, h⟩ := h; exact .inl ⟨c, r, a, val, rfl, h⟩
  | bad r => obtain ⟨a, val, h⟩ := h; exact .inr ⟨r, a, val, rfl, h⟩
theorem RA.ok' {α : Type} {V : α → World → Value → Prop} {J : Value → Prop} {w : World} {rb : Nat} {s : ByteArray} {X : Rd α} {w' : World} {c : α} {r : List UInt8} {a : Nat} {val : Value} (hX : X = .ok c r) (hV : V c w' val) (hS : Suf s a r) (hA : RAt w' rb s a false) (hg : w.grownBy w' (some rb)) : RA V J w rb s X (.returned val) w' := by
  subst hX; exact ⟨a, val, rfl, hV, hS, hA, hg⟩
theorem RA.bad' {α : Type} {V : α → World → Value → Prop} {J : Value → Prop} {w : World} {rb : Nat} {s : ByteArray} {X : Rd α} {w' : World} {r : List UInt8} {a : Nat} {val : Value} (hX : X = .bad r) (hJ : J val) (hS : Suf s a r) (hA : RAt w' rb s a true) (hg : w.grownBy w' (some rb)) : RA V J w rb s X (.returned val) w' := by
  subst hX; exact ⟨a, val, rfl, hJ, hS, hA, hg⟩
/-- Any byte. -/
def u8J (val : Value) : Prop := ∃ c : UInt8, val = .int .u8 (c.toNat : Int)

theorem rbyte_any (w : World) (rb : Nat) (s : ByteArray) (a : Nat) (r : List UInt8) (hA : RAt w rb s a false) (hS : Suf s a r) (hs : s.size ≤ 4096) :
    Calls Try.prog 92 #[.pointer (some ⟨rb, 0, none⟩)] w (RA u8V u8J w rb s (letP specials r)) := by
  have hbad : ∀ {a' : Nat} {r' : List UInt8} {X : Rd UInt8}, X = .bad r' → Suf s a' r' → ∀ e w', RBad w rb s a' e w' → RA u8V u8J w rb s X e w' := by
    rintro a' r' X hX hS' e w' ⟨rfl, h1, h2⟩
    exact RA.bad' hX ⟨0, rfl⟩ hS' h1 h2
  have hok : ∀ {a' : Nat} {r' : List UInt8} {X : Rd UInt8} {c : UInt8} {v : Int}, X = .ok c r' → v = (c.toNat : Int) → Suf s a' r' → ∀ e w', (e = .returned (.int .u8 v) ∧ RAt w' rb s a' false ∧ w.grownBy w' (some rb)) → RA u8V u8J w rb s X e w' := by
    rintro a' r' X c v hX rfl hS' e w' ⟨rfl, h1, h2⟩
    exact RA.ok' hX rfl hS' h1 h2
  rcases hS.head with ⟨ha, rfl⟩ | ⟨hlt, r1, rfl, hS1⟩
  · exact (rbyte_end w rb s a hA ha hs).mono (hbad rfl hS)
  · by_cases hc : s[a] = 92
    · have hl : letP specials (s[a] :: r1) = escP r1 := by rw [letP, if_pos hc]
      rw [hl]
      rcases hS1.head with ⟨ha, rfl⟩ | ⟨hlt2, r2, rfl, hS2⟩
      · exact (rbyte_e w rb s a hA hlt hc _ rfl ha hs).mono (hbad rfl hS1)
      · rw [escP]
        by_cases h1 : s[a + 1] = 110
        · rw [if_pos h1]; exact (rbyte_n w rb s a hA hlt hc _ rfl hlt2 h1 hs).mono (hok rfl rfl hS2)
        rw [if_neg h1]
        by_cases h2 : s[a + 1] = 116
        · rw [if_pos h2]; exact (rbyte_t w rb s a hA hlt hc _ rfl hlt2 h2 hs).mono (hok rfl rfl hS2)
        rw [if_neg h2]
        by_cases h3 : s[a + 1] = 114
        · rw [if_pos h3]; exact (rbyte_r w rb s a hA hlt hc _ rfl hlt2 h3 hs).mono (hok rfl rfl hS2)
        rw [if_neg h3]
        by_cases h4 : s[a + 1] = 120
        · rw [if_pos h4]
          cases hd : digitP r2 with
          | bad b =>
            refine (rbyte_x1 w rb s a hA hlt hc _ rfl hlt2 h4 r2 b hS2 hd hs).mono ?_
            rintro e w' ⟨rfl, k1, k2, k3⟩
            exact RA.bad' rfl ⟨0, rfl⟩ k1 k2 k3
          | ok h r3 =>
            simp only []
            cases hd2 : digitP r3 with
            | bad b =>
              refine (rbyte_x2 w rb s a hA hlt hc _ rfl hlt2 h4 r2 r3 b h hS2 hd hd2 hs).mono ?_
              rintro e w' ⟨⟨v, rfl⟩, k1, k2, k3⟩
              exact RA.bad' rfl ⟨v, rfl⟩ k1 k2 k3
            | ok l r4 =>
              refine (rbyte_x3 w rb s a hA hlt hc _ rfl hlt2 h4 r2 r3 r4 h l hS2 hd hd2 hs).mono ?_
              rintro e w' ⟨rfl, k1, k2, k3⟩
              exact RA.ok' rfl rfl k1 k2 k3
        rw [if_neg h4]
        by_cases h5 : barB specials s[a + 1] = true
        · rw [if_pos h5]; exact (rbyte_sp w rb s a hA hlt hc _ rfl hlt2 h5 hs).mono (hok rfl rfl hS2)
        · rw [if_neg h5]; exact (rbyte_o w rb s a hA hlt hc _ rfl hlt2 ⟨by simpa using h5, h1, h2, h3, h4⟩ hs).mono (hbad rfl hS1)
    · by_cases hb : barB specials s[a] = true
      · exact (rbyte_spec w rb s a hA hlt hc hb hs).mono (hbad (by rw [letP, if_neg hc, if_pos hb]) hS)
      · exact (rbyte_plain w rb s a hA hlt hc (by simpa using hb) hs).mono (hok (by rw [letP, if_neg hc, if_neg hb]) rfl hS1)
end Go.Proofs.Ytkdfobnkebkpfaa
