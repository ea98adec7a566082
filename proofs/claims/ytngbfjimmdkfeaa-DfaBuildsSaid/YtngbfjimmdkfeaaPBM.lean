/- Texts joined: Rs Rk Rt. -/
import Derived.Test.YtngbfjimmdkfeaaPBB
import Derived.Test.YtngbfjimmdkfeaaPBC
import Derived.BigQuiet
import Derived.Test.YtngbfjimmdkfeaaPBL
set_option linter.unusedVariables false
set_option linter.unusedSimpArgs false
namespace Go.Proofs.Ytngbfjimmdkfeaa
open Go.RowKit

attribute [local go_sem] Oper.semAt_some

set_option maxRecDepth 100000 in
set_option maxHeartbeats 1000000 in
theorem sameSpans_any (a b : Option Addr) (ac bc : Nat) (l m : List Sp) (w : World) (hl : Sps w a ac l) (hm : Sps w b bc m) :
    Calls Try.prog 58 #[.slice a l.length ac, .slice b m.length bc] w fun e w' => e = .returned (.bool (decide (l = m))) ∧ Below w.heap.size w w' := by
  have hle := hl.le
  have hmx := hl.max
  have hle2 := hm.le
  have hmx2 := hm.max
  obtain ⟨L, HL⟩ : ∃ L, Hid (l.length = L) := ⟨_, Lib.hid rfl⟩
  obtain ⟨M, HM⟩ : ∃ L, Hid (m.length = L) := ⟨_, Lib.hid rfl⟩
  rw [HL.out] at hle ⊢
  rw [HM.out] at hle2 ⊢
  by_cases hLM : L = M
  · subst hLM
    go_enter Try.func58, Try.ntmps58
    go_wp2_with (fail)
    go_loopw [5, 13] (fun _ i wr => ∃ (k : Nat), k ≤ L ∧ i = .int .i64 (k : Int) ∧ l.take k = m.take k ∧ Below w.heap.size w wr) (fun _ i _ => L - (intOf i).toNat)
    case atStart => exact ⟨0, by omega, rfl, rfl, Below.refl _ w⟩
    case round =>
      obtain ⟨k, hk, rfl, hr, hbr⟩ := hrel
      have HR := Lib.hid hr
      clear hr
      by_cases hlt : k < L
      · have hkl : k < l.length := by rw [HL.out]; exact hlt
        have hkm : k < m.length := by rw [HM.out]; exact hlt
        obtain ⟨b1, o1, rfl⟩ := hl.at_ k hkl
        obtain ⟨b2, o2, rfl⟩ := hm.at_ k hkm
        obtain ⟨c0, c1⟩ := (hl.grown hbr).cell b1 o1 rfl k hkl
        obtain ⟨d0, d1⟩ := (hm.grown hbr).cell b2 o2 rfl k hkm
        obtain ⟨s, HS⟩ : ∃ s, Hid (l[k] = s) := ⟨_, Lib.hid rfl⟩
        obtain ⟨t, HT⟩ : ∃ s, Hid (m[k] = s) := ⟨_, Lib.hid rfl⟩
        rw [HS.out] at c0 c1
        rw [HT.out] at d0 d1
        have hmore : Hid (l.take (k + 1) = l.take k ++ [s] ∧ m.take (k + 1) = m.take k ++ [t]) := Lib.hid ⟨by rw [List.take_add_one, List.getElem?_eq_getElem hkl, HS.out]; rfl, by rw [List.take_add_one, List.getElem?_eq_getElem hkm, HT.out]; rfl⟩
        have hne : Hid (s ≠ t → decide (l = m) = false) := Lib.hid (fun h => decide_eq_false (fun e => h (by rw [← HS.out, ← HT.out]; subst e; rfl)))
        have hbd : Below w.heap.size w wr := hbr
        by_cases e1 : s.lo.toNat = t.lo.toNat
        · by_cases e2 : s.hi.toNat = t.hi.toNat
          · have hst : s = t := by
              cases s; cases t
              simp only at e1 e2
              rw [UInt8.toNat_inj.1 e1, UInt8.toNat_inj.1 e2]
            subst hst
            clear hl hm e1 e2
            go_wp2_with (fail)
            go_region
            all_goals
              go_wp2_with (fail)
              go_roundw
            case rel => exact ⟨k + 1, by omega, by go_num, by rw [hmore.out.1, hmore.out.2, HR.out], hbd.drew⟩
            case measure => simp [intOf]; omega
          · have e3 : ((s.hi.toNat : Int) == (t.hi.toNat : Int)) = false := by rw [beq_eq_false_iff_ne]; omega
            have hst : s ≠ t := fun e => e2 (by rw [e])
            have hF := Lib.hid (hne.out hst)
            clear hl hm
            go_wp2_with (fail)
            go_region
            go_wp2_with (fail)
            exact bodyPost_ret (v := .bool false) (by simp [results, Try.results58, go_sem]; try rfl) rfl ⟨ret_bool hF.out.symm, hbd.drew⟩
        · have e3 : ((s.lo.toNat : Int) == (t.lo.toNat : Int)) = false := by rw [beq_eq_false_iff_ne]; omega
          have hst : s ≠ t := fun e => e1 (by rw [e])
          have hF := Lib.hid (hne.out hst)
          clear hl hm
          go_wp2_with (fail)
          go_region
          go_wp2_with (fail)
          exact bodyPost_ret (v := .bool false) (by simp [results, Try.results58, go_sem]; try rfl) rfl ⟨ret_bool hF.out.symm, hbd.drew⟩
      · obtain rfl : k = L := by omega
        have hT : Hid (decide (l = m) = true) := Lib.hid (decide_eq_true (by have := HR.out; rwa [List.take_of_length_le (by rw [HL.out]; exact Nat.le_refl _), List.take_of_length_le (by rw [HM.out]; exact Nat.le_refl _)] at this))
        go_wp2_with (fail)
        exact bodyPost_ret (v := .bool true) (by simp [results, Try.results58, go_sem]; try rfl) rfl ⟨ret_bool hT.out.symm, hbr⟩
  · have hF : Hid (decide (l = m) = false) := Lib.hid (decide_eq_false (fun e => hLM (by rw [← HL.out, ← HM.out, e])))
    have hne : ((L : Int) == (M : Int)) = false := by rw [beq_eq_false_iff_ne]; omega
    go_enter Try.func58, Try.ntmps58
    go_wp2_with (fail)
    all_goals first
      | exact bodyPost_ret (v := .bool false) (by simp [results, Try.results58, go_sem]; try rfl) rfl ⟨ret_bool hF.out.symm, Below.refl _ w⟩
      | (exfalso; omega)

set_option maxRecDepth 100000 in
set_option maxHeartbeats 1000000 in
theorem in_any (a : Option Addr) (ac : Nat) (l : List Sp) (c : Nat) (hc : c < 256) (w : World) (hl : Sps w a ac l) :
    Calls Try.prog 60 #[.slice a l.length ac, .int .u8 (c : Int)] w fun e w' => e = .returned (.bool (inSp l c)) ∧ Below w.heap.size w w' := by
  have hle := hl.le
  have hmx := hl.max
  obtain ⟨L, HL⟩ : ∃ L, Hid (l.length = L) := ⟨_, Lib.hid rfl⟩
  rw [HL.out] at hle ⊢
  go_enter Try.func60, Try.ntmps60
  go_wp2_with (fail)
  go_loopw [6, 9] (fun _ i wr => ∃ (k : Nat), k ≤ L ∧ i = .int .i64 (k : Int) ∧ inSp (l.take k) c = false ∧ Below w.heap.size w wr) (fun _ i _ => L - (intOf i).toNat)
  case atStart => exact ⟨0, by omega, rfl, rfl, Below.refl _ w⟩
  case round =>
    obtain ⟨k, hk, rfl, hr, hbr⟩ := hrel
    have HR := Lib.hid hr
    clear hr
    by_cases hlt : k < L
    · have hkl : k < l.length := by rw [HL.out]; exact hlt
      obtain ⟨b1, o1, rfl⟩ := hl.at_ k hkl
      obtain ⟨c0, c1⟩ := (hl.grown hbr).cell b1 o1 rfl k hkl
      obtain ⟨s, HS⟩ : ∃ s, Hid (l[k] = s) := ⟨_, Lib.hid rfl⟩
      rw [HS.out] at c0 c1
      have hlw : b1 < wr.heap.size := World.block_lt_of_cell? wr _ c0
      have hmore : Hid (inSp (l.take (k + 1)) c = (inSp (l.take k) c || decide (s.lo.toNat ≤ c ∧ c ≤ s.hi.toNat))) := Lib.hid (inSp_snoc l k s (by rw [List.getElem?_eq_getElem hkl, HS.out]) c)
      have hall : Hid (s.lo.toNat ≤ c → c ≤ s.hi.toNat → inSp l c = true) := Lib.hid (fun h1 h2 => by
        unfold inSp
        rw [List.any_eq_true]
        exact ⟨s, HS.out ▸ List.getElem_mem _, decide_eq_true ⟨h1, h2⟩⟩)
      have hbn : Below w.heap.size w (wr.alloc (.cells #[.int .u8 (s.lo.toNat : Int), .int .u8 (s.hi.toNat : Int)] 55)) := hbr.alloc hbr.size _
      clear hl
      by_cases h1 : s.lo.toNat ≤ c
      · have h1I : (s.lo.toNat : Int) ≤ (c : Int) := by omega
        by_cases h2 : c ≤ s.hi.toNat
        · have h2I : (c : Int) ≤ (s.hi.toNat : Int) := by omega
          go_wp2_with (fail)
          exact bodyPost_ret (v := .bool true) (by simp [results, Try.results60, go_sem]; try rfl) rfl ⟨ret_bool (hall.out h1 h2).symm, hbn⟩
        · have h2I : ¬ (c : Int) ≤ (s.hi.toNat : Int) := by omega
          go_wp2_with (fail)
          go_roundw
          case rel => exact ⟨k + 1, by omega, by go_num, by rw [hmore.out, HR.out, decide_eq_false (by omega)]; rfl, hbn⟩
          case measure => simp [intOf]; omega
      · have h1I : ¬ (s.lo.toNat : Int) ≤ (c : Int) := by omega
        go_wp2_with (fail)
        go_roundw
        case rel => exact ⟨k + 1, by omega, by go_num, by rw [hmore.out, HR.out, decide_eq_false (by omega)]; rfl, hbn⟩
        case measure => simp [intOf]; omega
    · obtain rfl : k = L := by omega
      have hF : Hid (inSp l c = false) := Lib.hid (by have := HR.out; rwa [List.take_of_length_le (by rw [HL.out]; exact Nat.le_refl _)] at this)
      go_wp2_with (fail)
      exact bodyPost_ret (v := .bool false) (by simp [results, Try.results60, go_sem]; try rfl) rfl ⟨ret_bool hF.out.symm, hbr⟩
end Go.Proofs.Ytngbfjimmdkfeaa

namespace Go.Proofs.Ytngbfjimmdkfeaa
open Go.RowKit Go.Shelf

attribute [local go_sem] Oper.semAt_some

theorem checkE_ref (h : Hd) (kids : Fo) : checkE (Fo.pre 1 (.cons h kids .nil)) = if (plainB h kids.len && mayB kids) = true then (if kids.deep + 1 ≤ 40 then 0 else 3) else 1 := by
  unfold checkE
  have e1 : ((Fo.pre 1 (.cons h kids .nil)).all fun x => plainB x.h x.len) = (plainB h kids.len && mayB kids) := by
    have := mayB_cons h kids .nil
    rw [show mayB .nil = true from rfl, Bool.and_true] at this
    exact this
  have e2 := pre_deep (.cons h kids .nil) 1 (by omega)
  rw [e1, e2]
  by_cases hp : (plainB h kids.len && mayB kids) = true
  · rw [if_pos hp, if_pos hp]
    have : (1 + (Fo.cons h kids .nil).deep ≤ 41) ↔ kids.deep + 1 ≤ 40 := by
      show 1 + max (kids.deep + 1) 0 ≤ 41 ↔ _
      omega
    by_cases h2 : kids.deep + 1 ≤ 40
    · rw [if_pos h2, if_pos (decide_eq_true (this.2 h2))]
    · rw [if_neg h2, if_neg (by rw [decide_eq_false (fun h => h2 (this.1 h))]; decide)]
  · rw [if_neg hp, if_neg hp]

set_option maxRecDepth 100000 in
set_option maxHeartbeats 1000000 in
theorem refCheck_any (h : Hd) (kids : Fo) (sa : Option Addr) (sc : Nat) (a : Option Addr) (cap : Nat) (w : World) (hss : Sps w sa sc h.set) (hI : Items w a cap kids) (hN : kids.size ≤ 1099511627776) :
    Calls Try.prog 24 #[itemV h sa sc a kids.len cap] w fun e w' => e = .returned (.int .i64 (checkE (Fo.pre 1 (.cons h kids .nil)))) ∧ Below w.heap.size w w' := by
  obtain ⟨E, HE⟩ : ∃ E : Int, Hid (checkE (Fo.pre 1 (.cons h kids .nil)) = E) := ⟨_, Lib.hid rfl⟩
  rw [HE.out]
  have hb0 := (Below.refl w.heap.size w).alloc (Nat.le_refl _) (.cells #[.int .i64 h.k, .slice sa h.set.length sc, .slice a kids.len cap] 45)
  have hI1 := hI.grown hb0
  have hs1 := hss.grown hb0
  have hB0 := Blk.new w 45 #[.int .i64 h.k, .slice sa h.set.length sc, .slice a kids.len cap]
  have hlt0 := hB0.lt
  go_enter Try.func24, Try.ntmps24
  go_wp2_with (fail)
  refine (may_any (kids.size + 1) h kids sa sc a cap _ (by omega) hs1 hI1).mono ?_
  rintro e w1 ⟨rfl, hb1⟩
  have hB1 := hB0.below hb1 hlt0
  have hI2 := hI1.grown hb1
  have hb2 : Below w.heap.size w w1 := hb0.trans (hb1.mono hb0.size)
  clear hb0 hb1 hB0 hlt0 hI1 hs1
  by_cases hm : (plainB h kids.len && mayB kids) = true
  · rw [hm]
    have y0 := hB1.cell 0
    have y1 := hB1.cell 1
    have y2 := hB1.cell 2
    simp only [List.getElem?_cons_zero, List.getElem?_cons_succ] at y0 y1 y2
    clear hB1
    go_wp2_with (fail)
    refine (deep_any (kids.size + 1) h kids sa sc a cap w1 (by omega) (by omega) hI2).mono ?_
    rintro e w3 ⟨rfl, hb3⟩
    have hb4 : Below w.heap.size w w3 := hb2.trans (hb3.mono hb2.size)
    have hdl := Fo.deep_le kids
    clear hb3 hb2 y0 y1 y2 hI2
    by_cases hd : kids.deep + 1 ≤ 40
    · go_wp2_with (fail)
      exact bodyPost_ret (v := .int .i64 0) (by simp [results, Try.results24, go_sem]; try rfl) rfl ⟨by rw [← HE.out, checkE_ref, if_pos hm, if_pos hd], hb4⟩
    · go_wp2_with (fail)
      exact bodyPost_ret (v := .int .i64 3) (by simp [results, Try.results24, go_sem]; try rfl) rfl ⟨by rw [← HE.out, checkE_ref, if_pos hm, if_neg hd], hb4⟩
  · have hm' : (plainB h kids.len && mayB kids) = false := by simpa using hm
    rw [hm']
    go_wp2_with (fail)
    exact bodyPost_ret (v := .int .i64 1) (by simp [results, Try.results24, go_sem]; try rfl) rfl ⟨by rw [← HE.out, checkE_ref, if_neg hm], hb2⟩

theorem ElAt.same {w w2 : World} {b off b2 off2 k sc tc xcap ycap : Nat} {kids ks gids gs : Fo} {hd gd : Hd} {sa ta xa ya : Option Addr} (h : ElAt w b off k kids hd ks sa sc xa xcap) (g : ElAt w2 b2 off2 k gids gd gs ta tc ya ycap) :
    sameB (kids.drop k) (gids.drop k) = (hdB hd gd ks.len gs.len && sameB ks gs && sameB (kids.drop (k + 1)) (gids.drop (k + 1))) := by
  rw [h.cut, g.cut, Fo.drop_succ _ _ _ _ _ h.cut, Fo.drop_succ _ _ _ _ _ g.cut]
  simp only [sameB]

end Go.Proofs.Ytngbfjimmdkfeaa

namespace Go.Proofs.Ytngbfjimmdkfeaa
open Go.RowKit

attribute [local go_sem] Oper.semAt_some

theorem spP_length_le (p : Nat → Bool) (k : Nat) : (spP p k).length ≤ k := by
  induction k with
  | zero => simp [spP]
  | succ k ih =>
    rw [spP, stepP]
    split
    · split
      · unfold lastTo
        simp; omega
      · simp; omega
    · omega
/-- One byte further, as the reference reckons it. -/
theorem spP_step (p : Nat → Bool) (k : Nat) (hk : k < 256) :
    (p k = false → spP p (k + 1) = spP p k) ∧
    (p k = true → ∀ m s, spP p k = m ++ [s] → s.hi.toNat + 1 = k → spP p (k + 1) = m ++ [⟨s.lo, UInt8.ofNat k⟩]) ∧
    (p k = true → (∀ m s, spP p k = m ++ [s] → s.hi.toNat + 1 ≠ k) → spP p (k + 1) = spP p k ++ [⟨UInt8.ofNat k, UInt8.ofNat k⟩]) ∧
    (∀ m s, spP p k = m ++ [s] → s.hi.toNat < k) := by
  obtain ⟨hm, ho, hl⟩ := spP_ok p k (by omega)
  refine ⟨fun h => by rw [spP, stepP, if_neg (by rw [h]; simp)], fun h m s e h1 => ?_, fun h hne => ?_, fun m s e => (hl m s e).1⟩
  · have hq : p (k - 1) = true := by
      cases hp : p (k - 1) with
      | true => rfl
      | false => have := (hl m s e).2.2 (by omega) hp; omega
    rw [spP, stepP, if_pos h, if_pos (by rw [hq, decide_eq_true (by omega)]; rfl), e]
    simp [lastTo]
  · rw [spP, stepP, if_pos h, if_neg ?_]
    intro hq
    simp only [Bool.and_eq_true, decide_eq_true_eq] at hq
    rcases List.eq_nil_or_concat (spP p k) with e | ⟨m, s, e⟩
    · have := hm (k - 1)
      rw [e] at this
      simp [inSp, hq.2] at this
      omega
    · have e' : spP p k = m ++ [s] := by simpa using e
      have := (hl m s e').2.1 hq.1 hq.2
      exact hne m s e' (by omega)

set_option maxRecDepth 100000 in
set_option maxHeartbeats 2000000 in
theorem refSpans_own (a : Option Addr) (cap : Nat) (l : List Sp) (w : World) (hs : Sps w a cap l) :
    Calls Try.prog 59 #[.slice a l.length cap] w fun e w' => (∃ a' cap', e = .returned (.slice a' (spP (inSp l) 256).length cap') ∧ Sps w' a' cap' (spP (inSp l) 256) ∧ ∀ b off, a' = some ⟨b, off, none⟩ → w.heap.size ≤ b) ∧ Below w.heap.size w w' := by
  have HIn := Lib.hid (fun (k : Nat) (hk : k < 256) wx (hbx : Below w.heap.size w wx) => in_any a cap l k hk wx (hs.grown hbx))
  have HF : Hid (∀ k, k < 256 → (inSp l k = false → spP (inSp l) (k + 1) = spP (inSp l) k) ∧
    (inSp l k = true → ∀ m s, spP (inSp l) k = m ++ [s] → s.hi.toNat + 1 = k → spP (inSp l) (k + 1) = m ++ [⟨s.lo, UInt8.ofNat k⟩]) ∧
    (inSp l k = true → (∀ m s, spP (inSp l) k = m ++ [s] → s.hi.toNat + 1 ≠ k) → spP (inSp l) (k + 1) = spP (inSp l) k ++ [⟨UInt8.ofNat k, UInt8.ofNat k⟩]) ∧
    (∀ m s, spP (inSp l) k = m ++ [s] → s.hi.toNat < k)) := Lib.hid (fun k hk => spP_step (inSp l) k hk)
  have HLn : Hid (∀ k, (spP (inSp l) k).length ≤ k) := Lib.hid (spP_length_le _)
  obtain ⟨F, HFF⟩ : ∃ F, Hid (F = spP (inSp l)) := ⟨_, Lib.hid rfl⟩
  rw [← HFF.out] at HF HLn ⊢
  have hF0 : Hid (F 0 = []) := Lib.hid (by rw [HFF.out]; rfl)
  clear HFF
  generalize l.length = L at *
  generalize inSp l = p at *
  clear hs
  go_enter Try.func59, Try.ntmps59
  go_wp2_with (fail)
  go_loopw [3, 4] (fun o iv wr => ∃ (k : Nat) (b : Option Addr) (c : Nat), k ≤ 256 ∧ iv = .int .i64 (k : Int) ∧ o = .slice b (F k).length c ∧ wr.ownsRow w.heap.size 55 2 (.slice b (F k).length c) (F k).length (rowS (F k)) ∧ Below w.heap.size w wr) (fun _ i _ => 256 - (intOf i).toNat)
  case atStart => exact ⟨0, none, 0, by omega, rfl, by rw [hF0.out]; rfl, by rw [hF0.out]; exact World.ownsRow_nil _ _ _ _, Below.refl _ w⟩
  case round =>
    obtain ⟨k, b, c, hk, rfl, rfl, hown, hbr⟩ := hrel
    have hln := HLn.out k
    by_cases hlt : k < 256
    · obtain ⟨f1, f2, f3, f4⟩ := HF.out k hlt
      have hin := HIn.out k hlt wr hbr
      have hkI : (k : Int) < 256 := by omega
      have hu : (UInt8.ofNat k).toNat = k := by simp; omega
      have hw8 : IntKind.u8.wrap (k : Int) = (k : Int) := by rw [IntKind.wrap_u8]; omega
      obtain ⟨F1, HF1⟩ : ∃ F1, Hid (F (k + 1) = F1) := ⟨_, Lib.hid rfl⟩
      rw [HF1.out] at f1 f2 f3
      obtain ⟨S, HS⟩ : ∃ S, Hid (F k = S) := ⟨_, Lib.hid rfl⟩
      rw [HS.out] at f1 f2 f3 f4 hown hln ⊢
      have G1 := Lib.hid f1
      have G2 := Lib.hid f2
      have G3 := Lib.hid f3
      have G4 := Lib.hid f4
      have Hown := Lib.hid hown
      clear f1 f2 f3 f4 hown
      by_cases hp : p k = true
      · rw [hp] at hin
        by_cases hS : S = []
        · subst hS
          have hF : Hid (F1 = [] ++ [⟨UInt8.ofNat k, UInt8.ofNat k⟩]) := Lib.hid (G3.out hp (fun m s e => by simp at e))
          rw [List.length_nil] at Hown ⊢
          go_wp2_with (first
            | (go_at_call 60; (with_reducible refine hin.mono ?_); rintro e w8 ⟨rfl, hb8⟩;
               obtain ⟨a6, c6, w6, hrun6, hown6, hg6⟩ := run_pushS w8 43 (.int .u8 (k : Int)) (.int .u8 (k : Int)) (by simp [Value.oneCell']) (by simp [Value.oneCell']) (Hown.out.kept (below_grownBy hb8 none) (by cases b <;> simp [Value.ownBlock])) (by omega) (Nat.le_trans hbr.size hb8.size);
               have Hrun6 := Lib.hid hrun6; clear hrun6)
            | (at_builtin; (refine wpList_append_run rfl _ _ 43 43 rfl _ _ _ _ rfl rfl Hrun6.out ?_)))
          have ho8 := Hown.out.kept (below_grownBy hb8 none) (by cases b <;> simp [Value.ownBlock])
          have hb08 := hbr.trans (hb8.mono hbr.size)
          refine ⟨⟨k + 1, a6, c6, by omega, by simp, by rw [HF1.out, hF.out]; simp, ?_, hb08.grown hg6 hb08.size (fun i e => own_ge ho8 e)⟩, by simp [intOf]; omega⟩
          rw [HF1.out, hF.out, rowS_snoc, List.length_append]
          simp only [hu]
          exact hown6
        · obtain ⟨m, q, rfl⟩ : ∃ m q, S = m ++ [q] := by
            rcases List.eq_nil_or_concat S with e | ⟨m, q, e⟩
            · exact absurd e hS
            · exact ⟨m, q, by simpa using e⟩
          have hql := G4.out m q rfl
          rw [List.length_append, List.length_singleton] at Hown hln ⊢
          obtain ⟨g, rfl⟩ : ∃ g, b = some ⟨g, 0, none⟩ := by
            rcases Hown.out.2 with ⟨_, e⟩ | ⟨g, cap', cur, e, _⟩
            · omega
            · injection e with e1 _ _; exact ⟨g, e1⟩
          have hgb : w.heap.size ≤ g := own_ge Hown.out rfl
          have hgc : wr.cell? ⟨g, m.length * 2 + 1, none⟩ = some (.int .u8 (q.hi.toNat : Int)) := by
            rw [Hown.out.cellAt (m.length * 2 + 1) (by omega)]
            have := (rowS_get (m ++ [q]) m.length (by simp)).2
            simpa using this
          have hgf := Hown.out.frozenAt (m.length * 2 + 1)
          have hgl : g < wr.heap.size := World.block_lt_of_cell? wr _ hgc
          have hmI : (0 : Int) < (m.length : Int) + 1 := by omega
          have hcb : (m.length : Int) + 1 ≤ (c : Int) ∧ (c : Int) ≤ 9223372036854775807 := by
            rcases Hown.out.2 with ⟨_, e⟩ | ⟨g', cap', cur, e, h1, h2, h3, h4, h5⟩
            · omega
            · injection e with e1 e2 e3
              subst e3
              unfold maxLen at h4
              omega
          obtain ⟨hcb1, hcb2⟩ := hcb
          have e1 : (m.length : Int) + 1 - 1 = (m.length : Int) := by omega
          have e2 : ((m.length + 1 : Nat) : Int) - 1 = (m.length : Int) := by omega
          have hqu : q.hi.toNat < 256 := q.hi.toNat_lt
          have wq : wrap64 (q.hi.toNat : Int) = (q.hi.toNat : Int) := by unfold wrap64; omega
          by_cases hq : q.hi.toNat + 1 = k
          · have hF : Hid (F1 = m ++ [⟨q.lo, UInt8.ofNat k⟩]) := Lib.hid (G2.out hp m q rfl hq)
            have hqI : ((q.hi.toNat : Int) == (k : Int) - 1) = true := by simp; omega
            go_wp2_with (go_at_call 60; (with_reducible refine hin.mono ?_); rintro e w8 ⟨rfl, hb8⟩; have hgc9 := (hb8.cell (p := ⟨g, m.length * 2 + 1, none⟩) hgl).trans hgc; have hgf9 := (hb8.frozen (p := ⟨g, m.length * 2 + 1, none⟩) hgl).trans hgf; have hgl9 : g < w8.heap.size := Nat.lt_of_lt_of_le hgl hb8.size)
            have ho9 := Hown.out.kept (below_grownBy hb8 none) (by simp [Value.ownBlock])
            have hb09 := hbr.trans (hb8.mono hbr.size)
            have hset := (ho9.stored (m.length * 2 + 1) (.int .u8 ((UInt8.ofNat k).toNat : Int))).1
            rw [rowS_set, hu] at hset
            refine ⟨⟨k + 1, some ⟨g, 0, none⟩, c, by omega, by simp, by rw [HF1.out, hF.out]; simp, ?_, hb09.setCell (p := ⟨g, m.length * 2 + 1, none⟩) (by simpa using hgb) _⟩, by simp [intOf]; omega⟩
            rw [HF1.out, hF.out, List.length_append]
            simpa using hset
          · have hF : Hid (F1 = (m ++ [q]) ++ [⟨UInt8.ofNat k, UInt8.ofNat k⟩]) := Lib.hid (G3.out hp (fun m' s' e => by
              obtain ⟨_, e4⟩ := List.append_inj' e rfl
              have := (List.cons.inj e4).1
              rw [← this]; exact hq))
            have hqI : ((q.hi.toNat : Int) == (k : Int) - 1) = false := by rw [beq_eq_false_iff_ne]; omega
            go_wp2_with (first
            | (go_at_call 60; (with_reducible refine hin.mono ?_); rintro e w8 ⟨rfl, hb8⟩;
               obtain ⟨a6, c6, w6, hrun6, hown6, hg6⟩ := run_pushS w8 43 (.int .u8 (k : Int)) (.int .u8 (k : Int)) (by simp [Value.oneCell']) (by simp [Value.oneCell']) (Hown.out.kept (below_grownBy hb8 none) (by simp [Value.ownBlock])) (by omega) (Nat.le_trans hbr.size hb8.size);
               have Hrun6 := Lib.hid hrun6; clear hrun6; have hgc9 := (hb8.cell (p := ⟨g, m.length * 2 + 1, none⟩) hgl).trans hgc)
            | (at_builtin; (refine wpList_append_run rfl _ _ 43 43 rfl _ _ _ _ rfl rfl Hrun6.out ?_)))
            have ho8 := Hown.out.kept (below_grownBy hb8 none) (by simp [Value.ownBlock])
            have hb08 := hbr.trans (hb8.mono hbr.size)
            refine ⟨⟨k + 1, a6, c6, by omega, by simp, by rw [HF1.out, hF.out]; simp, ?_, hb08.grown hg6 hb08.size (fun i e => own_ge ho8 e)⟩, by simp [intOf]; omega⟩
            rw [HF1.out, hF.out, rowS_snoc, List.length_append, List.length_append]
            simp only [hu]
            exact hown6
      · rw [Bool.not_eq_true] at hp
        rw [hp] at hin
        have hF : Hid (F1 = S) := Lib.hid (G1.out hp)
        go_wp2_with (go_at_call 60; (with_reducible refine hin.mono ?_); rintro e w8 ⟨rfl, hb8⟩)
        have ho8 := Hown.out.kept (below_grownBy hb8 none) (by cases b <;> simp [Value.ownBlock])
        refine ⟨⟨k + 1, b, c, by omega, by simp, by rw [HF1.out, hF.out], ?_, hbr.trans (hb8.mono hbr.size)⟩, by simp [intOf]; omega⟩
        rw [HF1.out, hF.out]
        exact ho8
    · obtain rfl : k = 256 := by omega
      go_wp2_with (fail)
      exact bodyPost_ret (v := .slice b (F 256).length c) (by simp [results, Try.results59, go_sem]; try rfl) rfl ⟨⟨b, c, rfl, Sps.of_own hown rfl, fun g off eg => by subst eg; exact own_ge hown rfl⟩, hbr⟩
theorem refSpans_any (a : Option Addr) (cap : Nat) (l : List Sp) (w : World) (hs : Sps w a cap l) :
    Calls Try.prog 59 #[.slice a l.length cap] w fun e w' => (∃ a' cap', e = .returned (.slice a' (spP (inSp l) 256).length cap') ∧ Sps w' a' cap' (spP (inSp l) 256)) ∧ Below w.heap.size w w' :=
  (refSpans_own a cap l w hs).mono fun _ _ ⟨⟨a', c', e, h, _⟩, hb⟩ => ⟨⟨a', c', e, h⟩, hb⟩
end Go.Proofs.Ytngbfjimmdkfeaa

