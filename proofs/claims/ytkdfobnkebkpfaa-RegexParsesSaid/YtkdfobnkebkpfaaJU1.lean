/- Texts of layer 2 joined: Ua Ub Uc Ud Ue Uf. -/
import Derived.Test.YtkdfobnkebkpfaaJTx
import Derived.Test.YtkdfobnkebkpfaaJJ
import Derived.BigQuiet
set_option linter.unusedVariables false
set_option linter.unusedSimpArgs false
/- The reference's reader: is, digit. -/
namespace Go.Proofs.Ytkdfobnkebkpfaa
open Go.RowKit Go.Shelf
attribute [local go_sem] Oper.semAt_some

/-- The reference's reader stands at a place of its text; it has given up there or not. -/
def RAt (w : World) (rb : Nat) (s : ByteArray) (a : Nat) (bad : Bool) : Prop := Blk w rb 64 [.string s, .int .i64 (a : Int), .bool bad]
theorem RAt.cells {w : World} {rb : Nat} {s : ByteArray} {a : Nat} {bad : Bool} (h : RAt w rb s a bad) : w.cell? ⟨rb, 0, none⟩ = some (.string s) ∧ w.cell? ⟨rb, 1, none⟩ = some (.int .i64 (a : Int)) ∧ w.cell? ⟨rb, 2, none⟩ = some (.bool bad) := ⟨h.cell 0, h.cell 1, h.cell 2⟩
theorem RAt.drewN {w : World} {rb : Nat} {s : ByteArray} {a : Nat} {bad : Bool} (h : RAt w rb s a bad) (k : Nat) : RAt (w.drewN k) rb s a bad := h

set_option maxRecDepth 100000 in
set_option maxHeartbeats 1000000 in
theorem is_any (c : UInt8) (w : World) (rb : Nat) (s : ByteArray) (a : Nat) (bad : Bool) (r : List UInt8) (hA : RAt w rb s a bad) (hS : Suf s a r) (hs : s.size ≤ 4096) :
    Calls Try.prog 60 #[.pointer (some ⟨rb, 0, none⟩), .int .u8 (c.toNat : Int)] w fun e w' => e = .returned (.bool (!bad && headIs c r)) ∧ ∃ n, w' = w.drewN n := by
  obtain ⟨c0, c1, c2⟩ := hA.cells
  have hle := hS.le
  cases bad
  · rcases hS.head with ⟨ha, rfl⟩ | ⟨hlt, r1, rfl, hS1⟩
    · have hq : ¬ (a : Int) < (s.size : Int) := by omega
      have hqn : ¬ a < s.size := by omega
      clear ha
      go_enter Try.func60, Try.ntmps60
      go_wp2_with (fail)
      go_quiet (fail)
      go_wp2_with (fail)
      exact bodyPost_ret (v := .bool false) (by simp [results, Try.results60, go_sem]; try rfl) rfl ⟨rfl, _, rfl⟩
    · have hq : (a : Int) < (s.size : Int) := by omega
      obtain ⟨R, HR⟩ : ∃ R, Hid ((s[a] == c) = R) := ⟨_, Lib.hid rfl⟩
      obtain ⟨u, hu⟩ : ∃ u, Hid (s[a] = u) := ⟨_, Lib.hid rfl⟩
      have hu' := hu.out
      rw [hu'] at HR
      have hqI : ((u.toNat : Int) == (c.toNat : Int)) = R := by
        rw [← HR.out, Bool.eq_iff_iff]
        simp only [beq_iff_eq]
        exact ⟨fun e => UInt8.toNat_inj.1 (by omega), fun e => by rw [e]⟩
      have hR2 : Hid ((!false && headIs c (s[a] :: r1)) = R) := Lib.hid (by rw [hu.out, ← HR.out]; rfl)
      rw [hR2.out]
      clear hR2
      go_enter Try.func60, Try.ntmps60
      go_wp2_with (fail)
      go_quiet (fail)
      go_wp2_with (fail)
      exact bodyPost_ret (v := .bool R) (by simp [results, Try.results60, go_sem]; try rfl) rfl ⟨rfl, _, rfl⟩
  · go_enter Try.func60, Try.ntmps60
    go_wp2_with (fail)
    go_quiet (fail)
    go_wp2_with (fail)
    exact bodyPost_ret (v := .bool false) (by simp [results, Try.results60, go_sem]; try rfl) rfl ⟨rfl, _, rfl⟩
end Go.Proofs.Ytkdfobnkebkpfaa

/- The reference's reader: digit, fail, hex. -/
namespace Go.Proofs.Ytkdfobnkebkpfaa
open Go.RowKit Go.Shelf
attribute [local go_sem] Oper.semAt_some

/-- A digit's number; -1: it is none. -/
def digI (c : UInt8) : Int := match hexV c with | some v => (v.toNat : Int) | none => -1
theorem digI_is : ∀ c : UInt8, digI c = if 48 ≤ c.toNat ∧ c.toNat ≤ 57 then (c.toNat : Int) - 48 else if 97 ≤ c.toNat ∧ c.toNat ≤ 102 then (c.toNat : Int) - 97 + 10 else if 65 ≤ c.toNat ∧ c.toNat ≤ 70 then (c.toNat : Int) - 65 + 10 else -1 := by
  intro c
  have hu := c.toNat_lt
  unfold digI hexV
  by_cases h1 : 48 ≤ c.toNat ∧ c.toNat ≤ 57
  · rw [if_pos h1, if_pos h1]; simp only [UInt8.toNat_sub, UInt8.reduceToNat]; omega
  · rw [if_neg h1, if_neg h1]
    by_cases h2 : 97 ≤ c.toNat ∧ c.toNat ≤ 102
    · rw [if_pos h2, if_pos h2]; simp only [UInt8.toNat_sub, UInt8.toNat_add, UInt8.reduceToNat]; omega
    · rw [if_neg h2, if_neg h2]
      by_cases h3 : 65 ≤ c.toNat ∧ c.toNat ≤ 70
      · rw [if_pos h3, if_pos h3]; simp only [UInt8.toNat_sub, UInt8.toNat_add, UInt8.reduceToNat]; omega
      · rw [if_neg h3, if_neg h3]

set_option maxRecDepth 100000 in
set_option maxHeartbeats 1000000 in
theorem rfail_any (w : World) (rb : Nat) (s : ByteArray) (a : Nat) (bad : Bool) (hA : RAt w rb s a bad) :
    Calls Try.prog 43 #[.pointer (some ⟨rb, 0, none⟩)] w fun e w' => e = .returned (.tuple #[]) ∧ RAt w' rb s a true ∧ w.grownBy w' (some rb) := by
  obtain ⟨c0, c1, c2⟩ := hA.cells
  have hlt := hA.lt
  have f1 := hA.frozen 2
  go_enter Try.func43, Try.ntmps43
  go_wp2_with (fail)
  have hA2 : RAt (w.setCell ⟨rb, 2, none⟩ (.bool true)) rb s a true := Blk.set hA 2 _
  have hg2 := grownBy_set w rb 2 (.bool true)
  exact bodyPost_end (v := .tuple #[]) (by simp [results, Try.results43, go_sem]; try rfl) rfl ⟨rfl, hA2, hg2⟩

set_option maxRecDepth 100000 in
set_option maxHeartbeats 1000000 in
theorem rdigit_any (c : UInt8) (w : World) :
    Calls Try.prog 99 #[.int .u8 (c.toNat : Int)] w fun e w' => e = .returned (.int .i64 (digI c)) ∧ w' = w := by
  rw [digI_is]
  have hu := c.toNat_lt
  by_cases h1 : 48 ≤ c.toNat ∧ c.toNat ≤ 57
  · rw [if_pos h1]
    obtain ⟨l1, l2⟩ := h1
    go_enter Try.func99, Try.ntmps99
    go_wp2_with (fail)
    all_goals first
      | exact bodyPost_ret (v := .int .i64 ((c.toNat : Int) - 48)) (by simp [results, Try.results99, go_sem]; try rfl) rfl ⟨rfl, rfl⟩
      | (exfalso; omega)
  rw [if_neg h1]
  by_cases h2 : 97 ≤ c.toNat ∧ c.toNat ≤ 102
  · rw [if_pos h2]
    obtain ⟨l1, l2⟩ := h2
    go_enter Try.func99, Try.ntmps99
    go_wp2_with (fail)
    all_goals first
      | exact bodyPost_ret (v := .int .i64 ((c.toNat : Int) - 97 + 10)) (by simp [results, Try.results99, go_sem]; try rfl) rfl ⟨rfl, rfl⟩
      | (exfalso; omega)
  rw [if_neg h2]
  by_cases h3 : 65 ≤ c.toNat ∧ c.toNat ≤ 70
  · rw [if_pos h3]
    obtain ⟨l1, l2⟩ := h3
    go_enter Try.func99, Try.ntmps99
    go_wp2_with (fail)
    all_goals first
      | exact bodyPost_ret (v := .int .i64 ((c.toNat : Int) - 65 + 10)) (by simp [results, Try.results99, go_sem]; try rfl) rfl ⟨rfl, rfl⟩
      | (exfalso; omega)
  · rw [if_neg h3]
    go_enter Try.func99, Try.ntmps99
    go_wp2_with (fail)
    all_goals first
      | exact bodyPost_ret (v := .int .i64 (-1)) (by simp [results, Try.results99, go_sem]; try rfl) rfl ⟨rfl, rfl⟩
      | (exfalso; omega)
end Go.Proofs.Ytkdfobnkebkpfaa

/- The reference's reader: hex. -/
namespace Go.Proofs.Ytkdfobnkebkpfaa
open Go.RowKit Go.Shelf
attribute [local go_sem] Oper.semAt_some

theorem RAt.lt {w : World} {rb : Nat} {s : ByteArray} {a : Nat} {bad : Bool} (h : RAt w rb s a bad) : rb < w.heap.size := Blk.lt h

set_option maxRecDepth 100000 in
set_option maxHeartbeats 1000000 in
/-- It has given up already. -/
theorem rhex_bad (w : World) (rb : Nat) (s : ByteArray) (a : Nat) (hA : RAt w rb s a true) :
    Calls Try.prog 97 #[.pointer (some ⟨rb, 0, none⟩)] w fun e w' => e = .returned (.int .i64 0) ∧ RAt w' rb s a true ∧ w.grownBy w' (some rb) := by
  obtain ⟨c0, c1, c2⟩ := hA.cells
  have hlt := hA.lt
  have HA := Lib.hid hA
  clear hA
  go_enter Try.func97, Try.ntmps97
  go_wp2_with (fail)
  go_quiet (fail)
  have hf := rfail_any (w.drewN nq) rb s a true (HA.out.drewN nq)
  go_wp2_with (go_at_call 43; (with_reducible refine hf.mono ?_); rintro e w8 ⟨rfl, h8, g8⟩)
  exact bodyPost_ret (v := .int .i64 0) (by simp [results, Try.results97, go_sem]; try rfl) rfl ⟨rfl, h8, grownBy_rb (grownBy_drewN w nq _) g8⟩
set_option maxRecDepth 100000 in
set_option maxHeartbeats 1000000 in
/-- The text is at its end. -/
theorem rhex_end (w : World) (rb : Nat) (s : ByteArray) (a : Nat) (hA : RAt w rb s a false) (ha : a = s.size) (hs : s.size ≤ 4096) :
    Calls Try.prog 97 #[.pointer (some ⟨rb, 0, none⟩)] w fun e w' => e = .returned (.int .i64 0) ∧ RAt w' rb s a true ∧ w.grownBy w' (some rb) := by
  obtain ⟨c0, c1, c2⟩ := hA.cells
  have hlt := hA.lt
  have HA := Lib.hid hA
  have hq : s.size ≤ a := by omega
  have hq2 : (s.size : Int) ≤ (a : Int) := by omega
  clear hA ha
  go_enter Try.func97, Try.ntmps97
  go_wp2_with (fail)
  go_quiet (fail)
  have hf := rfail_any (w.drewN nq) rb s a false (HA.out.drewN nq)
  go_wp2_with (go_at_call 43; (with_reducible refine hf.mono ?_); rintro e w8 ⟨rfl, h8, g8⟩)
  exact bodyPost_ret (v := .int .i64 0) (by simp [results, Try.results97, go_sem]; try rfl) rfl ⟨rfl, h8, grownBy_rb (grownBy_drewN w nq _) g8⟩
set_option maxRecDepth 100000 in
set_option maxHeartbeats 1000000 in
/-- No digit stands here. -/
theorem rhex_no (w : World) (rb : Nat) (s : ByteArray) (a : Nat) (hA : RAt w rb s a false) (ha : a < s.size) (hd : digI s[a] < 0) (hs : s.size ≤ 4096) :
    Calls Try.prog 97 #[.pointer (some ⟨rb, 0, none⟩)] w fun e w' => e = .returned (.int .i64 0) ∧ RAt w' rb s a true ∧ w.grownBy w' (some rb) := by
  obtain ⟨c0, c1, c2⟩ := hA.cells
  have hlt := hA.lt
  have HA := Lib.hid hA
  have hq : ¬ s.size ≤ a := by omega
  have hq2 : ¬ (s.size : Int) ≤ (a : Int) := by omega
  have hq3 : (a : Int) < (s.size : Int) := by omega
  obtain ⟨u, hu⟩ : ∃ u, Hid (s[a] = u) := ⟨_, Lib.hid rfl⟩
  have hu' := hu.out
  rw [hu'] at hd
  obtain ⟨D, HD⟩ : ∃ D, Hid (digI u = D) := ⟨_, Lib.hid rfl⟩
  have hdg : ∀ W : World, Calls Try.prog 99 #[.int .u8 (u.toNat : Int)] W fun e w' => e = .returned (.int .i64 D) ∧ w' = W := fun W => by
    have := rdigit_any u W
    rw [HD.out] at this
    exact this
  rw [HD.out] at hd
  clear hA
  go_enter Try.func97, Try.ntmps97
  go_wp2_with (fail)
  go_quiet ((go_at_call 99; exact Calls.quiet_of_same (hdg _)))
  have hf := rfail_any (w.drewN nq) rb s a false (HA.out.drewN nq)
  go_wp2_with (go_at_call 43; (with_reducible refine hf.mono ?_); rintro e w8 ⟨rfl, h8, g8⟩)
  exact bodyPost_ret (v := .int .i64 0) (by simp [results, Try.results97, go_sem]; try rfl) rfl ⟨rfl, h8, grownBy_rb (grownBy_drewN w nq _) g8⟩
end Go.Proofs.Ytkdfobnkebkpfaa

/- The reference's reader: hex of a digit. -/
namespace Go.Proofs.Ytkdfobnkebkpfaa
open Go.RowKit Go.Shelf
attribute [local go_sem] Oper.semAt_some

theorem RAt.set {w : World} {rb : Nat} {s : ByteArray} {a : Nat} {bad : Bool} (h : RAt w rb s a bad) (k : Nat) (v : Value) (hv : v = .int .i64 (k : Int)) : RAt (w.setCell ⟨rb, 1, none⟩ v) rb s k bad := by
  subst hv; exact Blk.set h 1 _

set_option maxRecDepth 100000 in
set_option maxHeartbeats 1000000 in
theorem rhex_ok (w : World) (rb : Nat) (s : ByteArray) (a : Nat) (hA : RAt w rb s a false) (ha : a < s.size) (hd : 0 ≤ digI s[a]) (hs : s.size ≤ 4096) :
    Calls Try.prog 97 #[.pointer (some ⟨rb, 0, none⟩)] w fun e w' => e = .returned (.int .i64 (digI s[a])) ∧ RAt w' rb s (a + 1) false ∧ w.grownBy w' (some rb) := by
  obtain ⟨c0, c1, c2⟩ := hA.cells
  have hlt := hA.lt
  have f1 := hA.frozen 1
  have HA := Lib.hid hA
  have hq : ¬ s.size ≤ a := by omega
  have hq2 : ¬ (s.size : Int) ≤ (a : Int) := by omega
  have hq3 : (a : Int) < (s.size : Int) := by omega
  obtain ⟨u, hu⟩ : ∃ u, Hid (s[a] = u) := ⟨_, Lib.hid rfl⟩
  have hu' := hu.out
  rw [hu'] at hd ⊢
  obtain ⟨D, HD⟩ : ∃ D, Hid (digI u = D) := ⟨_, Lib.hid rfl⟩
  have hdg : ∀ W : World, Calls Try.prog 99 #[.int .u8 (u.toNat : Int)] W fun e w' => e = .returned (.int .i64 D) ∧ w' = W := fun W => by
    have := rdigit_any u W
    rw [HD.out] at this
    exact this
  rw [HD.out] at hd ⊢
  have hdn : ¬ D < 0 := by omega
  clear hA
  go_enter Try.func97, Try.ntmps97
  go_wp2_with (fail)
  go_quiet ((go_at_call 99; exact Calls.quiet_of_same (hdg _)))
  go_wp2_with (fail)
  have hA2 := (HA.out.drewN nq).set (a + 1) (.int .i64 ((a : Int) + 1)) (by simp)
  have hg2 := grownBy_rb (grownBy_drewN w nq (some rb)) (grownBy_set (w.drewN nq) rb 1 (.int .i64 ((a : Int) + 1)))
  obtain ⟨d0, d1, d2⟩ := hA2.cells
  have d1' : ((w.drewN nq).setCell ⟨rb, 1, none⟩ (.int .i64 ((a : Int) + 1))).cell? ⟨rb, 1, none⟩ = some (.int .i64 ((a : Int) + 1)) := by rw [d1]; simp
  clear d1
  generalize (w.drewN nq).setCell ⟨rb, 1, none⟩ (.int .i64 ((a : Int) + 1)) = W at hA2 hg2 d0 d1' d2 ⊢
  clear c0 c1 c2 hlt f1
  have hw1 : IntKind.i64.wrap ((a : Int) + 1 - 1) = (a : Int) := by rw [IntKind.wrap_i64]; omega
  go_quiet ((go_at_call 99; exact Calls.quiet_of_same (hdg _)))
  go_wp2_with (fail)
  exact bodyPost_ret (v := .int .i64 D) (by simp [results, Try.results97, go_sem]; try rfl) rfl ⟨rfl, hA2.drewN _, grownBy_rb hg2 (grownBy_drewN _ _ _)⟩
end Go.Proofs.Ytkdfobnkebkpfaa

/- The reference's reader: byte, where no backslash stands. -/
namespace Go.Proofs.Ytkdfobnkebkpfaa
open Go.RowKit Go.Shelf
attribute [local go_sem] Oper.semAt_some

/-- What the reference's reader gives up with. -/
def RBad (w : World) (rb : Nat) (s : ByteArray) (a : Nat) (e : Ending) (w' : World) : Prop := e = .returned (.int .u8 0) ∧ RAt w' rb s a true ∧ w.grownBy w' (some rb)

set_option maxRecDepth 100000 in
set_option maxHeartbeats 1000000 in
theorem rbyte_bad (w : World) (rb : Nat) (s : ByteArray) (a : Nat) (hA : RAt w rb s a true) :
    Calls Try.prog 92 #[.pointer (some ⟨rb, 0, none⟩)] w (RBad w rb s a) := by
  unfold RBad
  obtain ⟨c0, c1, c2⟩ := hA.cells
  have hlt := hA.lt
  have HA := Lib.hid hA
  clear hA
  go_enter Try.func92, Try.ntmps92
  go_wp2_with (fail)
  go_quiet (fail)
  have hf := rfail_any (w.drewN nq) rb s a true (HA.out.drewN nq)
  go_wp2_with (go_at_call 43; (with_reducible refine hf.mono ?_); rintro e w8 ⟨rfl, h8, g8⟩)
  exact bodyPost_ret (v := .int .u8 0) (by simp [results, Try.results92, go_sem]; try rfl) rfl ⟨rfl, h8, grownBy_rb (grownBy_drewN w nq _) g8⟩
set_option maxRecDepth 100000 in
set_option maxHeartbeats 1000000 in
theorem rbyte_end (w : World) (rb : Nat) (s : ByteArray) (a : Nat) (hA : RAt w rb s a false) (ha : a = s.size) (hs : s.size ≤ 4096) :
    Calls Try.prog 92 #[.pointer (some ⟨rb, 0, none⟩)] w (RBad w rb s a) := by
  unfold RBad
  obtain ⟨c0, c1, c2⟩ := hA.cells
  have hlt := hA.lt
  have HA := Lib.hid hA
  have hq : s.size ≤ a := by omega
  have hq2 : (s.size : Int) ≤ (a : Int) := by omega
  clear hA ha
  go_enter Try.func92, Try.ntmps92
  go_wp2_with (fail)
  go_quiet (fail)
  have hf := rfail_any (w.drewN nq) rb s a false (HA.out.drewN nq)
  go_wp2_with (go_at_call 43; (with_reducible refine hf.mono ?_); rintro e w8 ⟨rfl, h8, g8⟩)
  exact bodyPost_ret (v := .int .u8 0) (by simp [results, Try.results92, go_sem]; try rfl) rfl ⟨rfl, h8, grownBy_rb (grownBy_drewN w nq _) g8⟩
set_option maxRecDepth 100000 in
set_option maxHeartbeats 1000000 in
theorem rbyte_spec (w : World) (rb : Nat) (s : ByteArray) (a : Nat) (hA : RAt w rb s a false) (ha : a < s.size) (hc : s[a] ≠ 92) (hb : barB specials s[a] = true) (hs : s.size ≤ 4096) :
    Calls Try.prog 92 #[.pointer (some ⟨rb, 0, none⟩)] w (RBad w rb s a) := by
  unfold RBad
  obtain ⟨c0, c1, c2⟩ := hA.cells
  have hlt := hA.lt
  have HA := Lib.hid hA
  have hq : ¬ s.size ≤ a := by omega
  have hq2 : ¬ (s.size : Int) ≤ (a : Int) := by omega
  have hq3 : (a : Int) < (s.size : Int) := by omega
  obtain ⟨u, hu⟩ : ∃ u, Hid (s[a] = u) := ⟨_, Lib.hid rfl⟩
  have hu' := hu.out
  rw [hu'] at hc hb
  have hn : ((u.toNat : Int) != 92) = true := by
    rw [bne_iff_ne]
    intro e
    exact hc (UInt8.toNat_inj.1 (by show u.toNat = 92; omega))
  have hsp : ∀ W : World, Calls Try.prog 83 #[.int .u8 (u.toNat : Int)] W fun e w' => e = .returned (.bool true) ∧ w' = W := fun W => by
    have := special_any u W
    unfold barB at hb
    rw [hb] at this
    exact this
  clear hA hc hb
  go_enter Try.func92, Try.ntmps92
  go_wp2_with (fail)
  go_quiet (fail)
  have HA2 := Lib.hid (HA.out.drewN nq)
  have hg0 := grownBy_drewN w nq (some rb)
  obtain ⟨d0, d1, d2⟩ := HA2.out.cells
  generalize w.drewN nq = W at HA2 hg0 d0 d1 d2 ⊢
  clear c0 c1 c2 hlt
  go_wp2_with (fail)
  go_quiet (fail)
  have HA3 := Lib.hid (HA2.out.drewN nq)
  have hg1 := grownBy_rb hg0 (grownBy_drewN W nq (some rb))
  generalize W.drewN nq = W1 at HA3 hg1 ⊢
  clear d0 d1 d2
  have hf := rfail_any W1 rb s a false HA3.out
  go_wp2_with (first
    | (go_at_call 83; (with_reducible refine (hsp W1).mono ?_); rintro e w7 ⟨rfl, hw7⟩; subst hw7)
    | (go_at_call 43; (with_reducible refine hf.mono ?_); rintro e w8 ⟨rfl, h8, g8⟩))
  exact bodyPost_ret (v := .int .u8 0) (by simp [results, Try.results92, go_sem]; try rfl) rfl ⟨rfl, h8, grownBy_rb hg1 g8⟩
end Go.Proofs.Ytkdfobnkebkpfaa

/- The reference's reader: byte, of a letter that stands for itself. -/
namespace Go.Proofs.Ytkdfobnkebkpfaa
open Go.RowKit Go.Shelf
attribute [local go_sem] Oper.semAt_some

set_option maxRecDepth 100000 in
set_option maxHeartbeats 1000000 in
theorem rbyte_plain (w : World) (rb : Nat) (s : ByteArray) (a : Nat) (hA : RAt w rb s a false) (ha : a < s.size) (hc : s[a] ≠ 92) (hb : barB specials s[a] = false) (hs : s.size ≤ 4096) :
    Calls Try.prog 92 #[.pointer (some ⟨rb, 0, none⟩)] w fun e w' => e = .returned (.int .u8 (s[a].toNat : Int)) ∧ RAt w' rb s (a + 1) false ∧ w.grownBy w' (some rb) := by
  obtain ⟨c0, c1, c2⟩ := hA.cells
  have hlt := hA.lt
  have HA := Lib.hid hA
  have hq : ¬ s.size ≤ a := by omega
  have hq2 : ¬ (s.size : Int) ≤ (a : Int) := by omega
  have hq3 : (a : Int) < (s.size : Int) := by omega
  obtain ⟨u, hu⟩ : ∃ u, Hid (s[a] = u) := ⟨_, Lib.hid rfl⟩
  have hu' := hu.out
  rw [hu'] at hc hb ⊢
  have hn : ((u.toNat : Int) != 92) = true := by
    rw [bne_iff_ne]
    intro e
    exact hc (UInt8.toNat_inj.1 (by show u.toNat = 92; omega))
  have hsp : ∀ W : World, Calls Try.prog 83 #[.int .u8 (u.toNat : Int)] W fun e w' => e = .returned (.bool false) ∧ w' = W := fun W => by
    have := special_any u W
    unfold barB at hb
    rw [hb] at this
    exact this
  clear hA hc hb
  go_enter Try.func92, Try.ntmps92
  go_wp2_with (fail)
  go_quiet (fail)
  have HA2 := Lib.hid (HA.out.drewN nq)
  have hg0 := grownBy_drewN w nq (some rb)
  obtain ⟨d0, d1, d2⟩ := HA2.out.cells
  generalize w.drewN nq = W at HA2 hg0 d0 d1 d2 ⊢
  clear c0 c1 c2 hlt
  go_wp2_with (fail)
  go_quiet (fail)
  have HA3 := Lib.hid (HA2.out.drewN nq)
  have hg1 := grownBy_rb hg0 (grownBy_drewN W nq (some rb))
  have f1 := HA3.out.frozen 1
  have hlt := HA3.out.lt
  obtain ⟨x0, x1, x2⟩ := HA3.out.cells
  generalize W.drewN nq = W1 at HA3 hg1 f1 hlt x0 x1 x2 ⊢
  clear d0 d1 d2
  go_wp2_with (go_at_call 83; (with_reducible refine (hsp W1).mono ?_); rintro e w7 ⟨rfl, hw7⟩; subst hw7)
  have hA4 := HA3.out.set (a + 1) (.int .i64 ((a : Int) + 1)) (by simp)
  have hg4 := grownBy_rb hg1 (grownBy_set w7 rb 1 (.int .i64 ((a : Int) + 1)))
  exact bodyPost_ret (v := .int .u8 (u.toNat : Int)) (by simp [results, Try.results92, go_sem]; try rfl) rfl ⟨rfl, hA4, hg4⟩
end Go.Proofs.Ytkdfobnkebkpfaa
