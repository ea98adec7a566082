/- Texts of layer 2 joined: Rt. -/
import Derived.Test.YtpbceejjkdmclaaJM
import Derived.Test.YtpbceejjkdmclaaJC
set_option linter.unusedVariables false
set_option linter.unusedSimpArgs false
/- The reference's Spans. -/
namespace Go.Proofs.Ytpbceejjkdmclaa
open Go.RowKit

attribute [local go_sem] Oper.semAt_some

theorem spP_length_le (p : Nat → Bool) (k : Nat) : (spP p k).length ≤ k := by
  induction k with
  | zero => simp [spP]
  | succ k ih =>
    rw [spP, stepP]
    split
    · split
      · unfold lastTo
        simp; omega
      · simp; omega
    · omega
/-- One byte further, as the reference reckons it. -/
theorem spP_step (p : Nat → Bool) (k : Nat) (hk : k < 256) :
    (p k = false → spP p (k + 1) = spP p k) ∧
    (p k = true → ∀ m s, spP p k = m ++ [s] → s.hi.toNat + 1 = k → spP p (k + 1) = m ++ [⟨s.lo, UInt8.ofNat k⟩]) ∧
    (p k = true → (∀ m s, spP p k = m ++ [s] → s.hi.toNat + 1 ≠ k) → spP p (k + 1) = spP p k ++ [⟨UInt8.ofNat k, UInt8.ofNat k⟩]) ∧
    (∀ m s, spP p k = m ++ [s] → s.hi.toNat < k) := by
  obtain ⟨hm, ho, hl⟩ := spP_ok p k (by omega)
  refine ⟨fun h => by rw [spP, stepP, if_neg (by rw [h]; simp)], fun h m s e h1 => ?_, fun h hne => ?_, fun m s e => (hl m s e).1⟩
  · have hq : p (k - 1) = true := by
      cases hp : p (k - 1) with
      | true => rfl
      | false => have := (hl m s e).2.2 (by omega) hp; omega
    rw [spP, stepP, if_pos h, if_pos (by rw [hq, decide_eq_true (by omega)]; rfl), e]
    simp [lastTo]
  · rw [spP, stepP, if_pos h, if_neg ?_]
    intro hq
    simp only [Bool.and_eq_true, decide_eq_true_eq] at hq
    rcases List.eq_nil_or_concat (spP p k) with e | ⟨m, s, e⟩
    · have := hm (k - 1)
      rw [e] at this
      simp [inSp, hq.2] at this
      omega
    · have e' : spP p k = m ++ [s] := by simpa using e
      have := (hl m s e').2.1 hq.1 hq.2
      exact hne m s e' (by omega)

set_option maxRecDepth 100000 in
set_option maxHeartbeats 2000000 in
theorem refSpans_own (a : Option Addr) (cap : Nat) (l : List Sp) (w : World) (hs : Sps w a cap l) :
    Calls Try.prog 34 #[.slice a l.length cap] w fun e w' => (∃ a' cap', e = .returned (.slice a' (spP (inSp l) 256).length cap') ∧ Sps w' a' cap' (spP (inSp l) 256) ∧ ∀ b off, a' = some ⟨b, off, none⟩ → w.heap.size ≤ b) ∧ Below w.heap.size w w' := by
  have HIn := Lib.hid (fun (k : Nat) (hk : k < 256) wx (hbx : Below w.heap.size w wx) => in_any a cap l k hk wx (hs.grown hbx))
  have HF : Hid (∀ k, k < 256 → (inSp l k = false → spP (inSp l) (k + 1) = spP (inSp l) k) ∧
    (inSp l k = true → ∀ m s, spP (inSp l) k = m ++ [s] → s.hi.toNat + 1 = k → spP (inSp l) (k + 1) = m ++ [⟨s.lo, UInt8.ofNat k⟩]) ∧
    (inSp l k = true → (∀ m s, spP (inSp l) k = m ++ [s] → s.hi.toNat + 1 ≠ k) → spP (inSp l) (k + 1) = spP (inSp l) k ++ [⟨UInt8.ofNat k, UInt8.ofNat k⟩]) ∧
    (∀ m s, spP (inSp l) k = m ++ [s] → s.hi.toNat < k)) := Lib.hid (fun k hk => spP_step (inSp l) k hk)
  have HLn : Hid (∀ k, (spP (inSp l) k).length ≤ k) := Lib.hid (spP_length_le _)
  obtain ⟨F, HFF⟩ : ∃ F, Hid (F = spP (inSp l)) := ⟨_, Lib.hid rfl⟩
  rw [← HFF.out] at HF HLn ⊢
  have hF0 : Hid (F 0 = []) := Lib.hid (by rw [HFF.out]; rfl)
  clear HFF
  generalize l.length = L at *
  generalize inSp l = p at *
  clear hs
  go_enter Try.func34, Try.ntmps34
  go_wp2_with (fail)
  go_loopw [3, 4] (fun o iv wr => ∃ (k : Nat) (b : Option Addr) (c : Nat), k ≤ 256 ∧ iv = .int .i64 (k : Int) ∧ o = .slice b (F k).length c ∧ wr.ownsRow w.heap.size 79 2 (.slice b (F k).length c) (F k).length (rowS (F k)) ∧ Below w.heap.size w wr) (fun _ i _ => 256 - (intOf i).toNat)
  case atStart => exact ⟨0, none, 0, by omega, rfl, by rw [hF0.out]; rfl, by rw [hF0.out]; exact World.ownsRow_nil _ _ _ _, Below.refl _ w⟩
  case round =>
    obtain ⟨k, b, c, hk, rfl, rfl, hown, hbr⟩ := hrel
    have hln := HLn.out k
    by_cases hlt : k < 256
    · obtain ⟨f1, f2, f3, f4⟩ := HF.out k hlt
      have hin := HIn.out k hlt wr hbr
      have hkI : (k : Int) < 256 := by omega
      have hu : (UInt8.ofNat k).toNat = k := by simp; omega
      have hw8 : IntKind.u8.wrap (k : Int) = (k : Int) := by rw [IntKind.wrap_u8]; omega
      obtain ⟨F1, HF1⟩ : ∃ F1, Hid (F (k + 1) = F1) := ⟨_, Lib.hid rfl⟩
      rw [HF1.out] at f1 f2 f3
      obtain ⟨S, HS⟩ : ∃ S, Hid (F k = S) := ⟨_, Lib.hid rfl⟩
      rw [HS.out] at f1 f2 f3 f4 hown hln ⊢
      have G1 := Lib.hid f1
      have G2 := Lib.hid f2
      have G3 := Lib.hid f3
      have G4 := Lib.hid f4
      have Hown := Lib.hid hown
      clear f1 f2 f3 f4 hown
      by_cases hp : p k = true
      · rw [hp] at hin
        by_cases hS : S = []
        · subst hS
          have hF : Hid (F1 = [] ++ [⟨UInt8.ofNat k, UInt8.ofNat k⟩]) := Lib.hid (G3.out hp (fun m s e => by simp at e))
          rw [List.length_nil] at Hown ⊢
          go_wp2_with (first
            | (go_at_call 46; (with_reducible refine hin.mono ?_); rintro e w8 ⟨rfl, hb8⟩;
               obtain ⟨a6, c6, w6, hrun6, hown6, hg6⟩ := run_pushS w8 27 (.int .u8 (k : Int)) (.int .u8 (k : Int)) (by simp [Value.oneCell']) (by simp [Value.oneCell']) (Hown.out.kept (below_grownBy hb8 none) (by cases b <;> simp [Value.ownBlock])) (by omega) (Nat.le_trans hbr.size hb8.size);
               have Hrun6 := Lib.hid hrun6; clear hrun6)
            | (at_builtin; (refine wpList_append_run rfl _ _ 27 27 rfl _ _ _ _ rfl rfl Hrun6.out ?_)))
          have ho8 := Hown.out.kept (below_grownBy hb8 none) (by cases b <;> simp [Value.ownBlock])
          have hb08 := hbr.trans (hb8.mono hbr.size)
          refine ⟨⟨k + 1, a6, c6, by omega, by simp, by rw [HF1.out, hF.out]; simp, ?_, hb08.grown hg6 hb08.size (fun i e => own_ge ho8 e)⟩, by simp [intOf]; omega⟩
          rw [HF1.out, hF.out, rowS_snoc, List.length_append]
          simp only [hu]
          exact hown6
        · obtain ⟨m, q, rfl⟩ : ∃ m q, S = m ++ [q] := by
            rcases List.eq_nil_or_concat S with e | ⟨m, q, e⟩
            · exact absurd e hS
            · exact ⟨m, q, by simpa using e⟩
          have hql := G4.out m q rfl
          rw [List.length_append, List.length_singleton] at Hown hln ⊢
          obtain ⟨g, rfl⟩ : ∃ g, b = some ⟨g, 0, none⟩ := by
            rcases Hown.out.2 with ⟨_, e⟩ | ⟨g, cap', cur, e, _⟩
            · omega
            · injection e with e1 _ _; exact ⟨g, e1⟩
          have hgb : w.heap.size ≤ g := own_ge Hown.out rfl
          have hgc : wr.cell? ⟨g, m.length * 2 + 1, none⟩ = some (.int .u8 (q.hi.toNat : Int)) := by
            rw [Hown.out.cellAt (m.length * 2 + 1) (by omega)]
            have := (rowS_get (m ++ [q]) m.length (by simp)).2
            simpa using this
          have hgf := Hown.out.frozenAt (m.length * 2 + 1)
          have hgl : g < wr.heap.size := World.block_lt_of_cell? wr _ hgc
          have hmI : (0 : Int) < (m.length : Int) + 1 := by omega
          have hcb : (m.length : Int) + 1 ≤ (c : Int) ∧ (c : Int) ≤ 9223372036854775807 := by
            rcases Hown.out.2 with ⟨_, e⟩ | ⟨g', cap', cur, e, h1, h2, h3, h4, h5⟩
            · omega
            · injection e with e1 e2 e3
              subst e3
              unfold maxLen at h4
              omega
          obtain ⟨hcb1, hcb2⟩ := hcb
          have e1 : (m.length : Int) + 1 - 1 = (m.length : Int) := by omega
          have e2 : ((m.length + 1 : Nat) : Int) - 1 = (m.length : Int) := by omega
          have hqu : q.hi.toNat < 256 := q.hi.toNat_lt
          have wq : wrap64 (q.hi.toNat : Int) = (q.hi.toNat : Int) := by unfold wrap64; omega
          by_cases hq : q.hi.toNat + 1 = k
          · have hF : Hid (F1 = m ++ [⟨q.lo, UInt8.ofNat k⟩]) := Lib.hid (G2.out hp m q rfl hq)
            have hqI : ((q.hi.toNat : Int) == (k : Int) - 1) = true := by simp; omega
            go_wp2_with (go_at_call 46; (with_reducible refine hin.mono ?_); rintro e w8 ⟨rfl, hb8⟩; have hgc9 := (hb8.cell (p := ⟨g, m.length * 2 + 1, none⟩) hgl).trans hgc; have hgf9 := (hb8.frozen (p := ⟨g, m.length * 2 + 1, none⟩) hgl).trans hgf; have hgl9 : g < w8.heap.size := Nat.lt_of_lt_of_le hgl hb8.size)
            have ho9 := Hown.out.kept (below_grownBy hb8 none) (by simp [Value.ownBlock])
            have hb09 := hbr.trans (hb8.mono hbr.size)
            have hset := (ho9.stored (m.length * 2 + 1) (.int .u8 ((UInt8.ofNat k).toNat : Int))).1
            rw [rowS_set, hu] at hset
            refine ⟨⟨k + 1, some ⟨g, 0, none⟩, c, by omega, by simp, by rw [HF1.out, hF.out]; simp, ?_, hb09.setCell (p := ⟨g, m.length * 2 + 1, none⟩) (by simpa using hgb) _⟩, by simp [intOf]; omega⟩
            rw [HF1.out, hF.out, List.length_append]
            simpa using hset
          · have hF : Hid (F1 = (m ++ [q]) ++ [⟨UInt8.ofNat k, UInt8.ofNat k⟩]) := Lib.hid (G3.out hp (fun m' s' e => by
              obtain ⟨_, e4⟩ := List.append_inj' e rfl
              have := (List.cons.inj e4).1
              rw [← this]; exact hq))
            have hqI : ((q.hi.toNat : Int) == (k : Int) - 1) = false := by rw [beq_eq_false_iff_ne]; omega
            go_wp2_with (first
            | (go_at_call 46; (with_reducible refine hin.mono ?_); rintro e w8 ⟨rfl, hb8⟩;
               obtain ⟨a6, c6, w6, hrun6, hown6, hg6⟩ := run_pushS w8 27 (.int .u8 (k : Int)) (.int .u8 (k : Int)) (by simp [Value.oneCell']) (by simp [Value.oneCell']) (Hown.out.kept (below_grownBy hb8 none) (by simp [Value.ownBlock])) (by omega) (Nat.le_trans hbr.size hb8.size);
               have Hrun6 := Lib.hid hrun6; clear hrun6; have hgc9 := (hb8.cell (p := ⟨g, m.length * 2 + 1, none⟩) hgl).trans hgc)
            | (at_builtin; (refine wpList_append_run rfl _ _ 27 27 rfl _ _ _ _ rfl rfl Hrun6.out ?_)))
            have ho8 := Hown.out.kept (below_grownBy hb8 none) (by simp [Value.ownBlock])
            have hb08 := hbr.trans (hb8.mono hbr.size)
            refine ⟨⟨k + 1, a6, c6, by omega, by simp, by rw [HF1.out, hF.out]; simp, ?_, hb08.grown hg6 hb08.size (fun i e => own_ge ho8 e)⟩, by simp [intOf]; omega⟩
            rw [HF1.out, hF.out, rowS_snoc, List.length_append, List.length_append]
            simp only [hu]
            exact hown6
      · rw [Bool.not_eq_true] at hp
        rw [hp] at hin
        have hF : Hid (F1 = S) := Lib.hid (G1.out hp)
        go_wp2_with (go_at_call 46; (with_reducible refine hin.mono ?_); rintro e w8 ⟨rfl, hb8⟩)
        have ho8 := Hown.out.kept (below_grownBy hb8 none) (by cases b <;> simp [Value.ownBlock])
        refine ⟨⟨k + 1, b, c, by omega, by simp, by rw [HF1.out, hF.out], ?_, hbr.trans (hb8.mono hbr.size)⟩, by simp [intOf]; omega⟩
        rw [HF1.out, hF.out]
        exact ho8
    · obtain rfl : k = 256 := by omega
      go_wp2_with (fail)
      exact bodyPost_ret (v := .slice b (F 256).length c) (by simp [results, Try.results34, go_sem]; try rfl) rfl ⟨⟨b, c, rfl, Sps.of_own hown rfl, fun g off eg => by subst eg; exact own_ge hown rfl⟩, hbr⟩
theorem refSpans_any (a : Option Addr) (cap : Nat) (l : List Sp) (w : World) (hs : Sps w a cap l) :
    Calls Try.prog 34 #[.slice a l.length cap] w fun e w' => (∃ a' cap', e = .returned (.slice a' (spP (inSp l) 256).length cap') ∧ Sps w' a' cap' (spP (inSp l) 256)) ∧ Below w.heap.size w w' :=
  (refSpans_own a cap l w hs).mono fun _ _ ⟨⟨a', c', e, h, _⟩, hb⟩ => ⟨⟨a', c', e, h⟩, hb⟩
end Go.Proofs.Ytpbceejjkdmclaa
