/- Layer 7: grammar.Same, whole. -/
import Derived.Test.YtoaabfdilhbajaaXs
namespace Go.Proofs.Ytoaabfdilhbajaa
open Go.RowKit Go.Shelf

attribute [local go_sem] Oper.semAt_some

set_option maxRecDepth 100000 in
set_option maxHeartbeats 2000000 in
theorem eqRules_any (a b : Option Addr) (ac bc : Nat) (l m : List RlD) (w : World) (hl : Rls w a ac l) (hm : Rls w b bc m) :
    Calls Try.prog 24 #[.slice a l.length ac, .slice b m.length bc, fV 25] w fun e w' => e = .returned (.bool (decide (grP l = grP m))) ∧ Below w.heap.size w w' := by
  have hle := hl.le
  have hmx := hl.max
  have hle2 := hm.le
  have hmx2 := hm.max
  obtain ⟨L, HL⟩ : ∃ L, Hid (l.length = L) := ⟨_, Lib.hid rfl⟩
  obtain ⟨M, HM⟩ : ∃ L, Hid (m.length = L) := ⟨_, Lib.hid rfl⟩
  rw [HL.out] at hle ⊢
  rw [HM.out] at hle2 ⊢
  obtain ⟨R, hR⟩ : ∃ R, Hid (decide (grP l = grP m) = R) := ⟨_, Lib.hid rfl⟩
  rw [hR.out]
  by_cases hLM : L = M
  · subst hLM
    go_enter Try.func24, Try.ntmps24
    go_wp2_with (fail)
    go_loopw [17] (fun i wr => ∃ (k : Nat), k ≤ L ∧ i = .int .i64 (k : Int) ∧ Hid (grP (l.take k) = grP (m.take k)) ∧ Below w.heap.size w wr) (fun i _ => L - (intOf i).toNat)
    case atStart => exact ⟨0, by omega, rfl, Lib.hid rfl, Below.refl _ w⟩
    case round =>
      obtain ⟨k, hk, rfl, HR, hbr⟩ := hrel
      by_cases hlt : k < L
      · have hkl : k < l.length := by rw [HL.out]; exact hlt
        have hkm : k < m.length := by rw [HM.out]; exact hlt
        have hkI : (k : Int) < (L : Int) := by omega
        have hkI0 : (0 : Int) ≤ (k : Int) := by omega
        obtain ⟨b1, o1, rfl⟩ := hl.at_ k hkl
        obtain ⟨b2, o2, rfl⟩ := hm.at_ k hkm
        obtain ⟨c0, c1⟩ := (hl.grown hbr).cell b1 o1 rfl k hkl
        obtain ⟨d0, d1⟩ := (hm.grown hbr).cell b2 o2 rfl k hkm
        have m1 : l[k] ∈ l := List.getElem_mem hkl
        have m2 : m[k] ∈ m := List.getElem_mem hkm
        obtain ⟨s, HS⟩ : ∃ s, Hid (l[k] = s) := ⟨_, Lib.hid rfl⟩
        obtain ⟨t, HT⟩ : ∃ s, Hid (m[k] = s) := ⟨_, Lib.hid rfl⟩
        rw [HS.out] at c0 c1 m1
        rw [HT.out] at d0 d1 m2
        have hmore : Hid (grP (l.take (k + 1)) = grP (l.take k) ++ [s.p] ∧ grP (m.take (k + 1)) = grP (m.take k) ++ [t.p]) := Lib.hid ⟨by unfold grP; rw [List.take_add_one, List.getElem?_eq_getElem hkl, HS.out, List.map_append]; rfl, by unfold grP; rw [List.take_add_one, List.getElem?_eq_getElem hkm, HT.out, List.map_append]; rfl⟩
        have hne : Hid (s.p ≠ t.p → R = false) := Lib.hid (fun h => by
          rw [← hR.out]
          refine decide_eq_false (fun e => h ?_)
          have h1 : (grP l)[k]'(by unfold grP; rw [List.length_map]; exact hkl) = s.p := by unfold grP; rw [List.getElem_map, HS.out]
          have h2 : (grP m)[k]'(by unfold grP; rw [List.length_map]; exact hkm) = t.p := by unfold grP; rw [List.getElem_map, HT.out]
          rw [← h1, ← h2]
          simp only [e])
        have hbl := World.block_lt_of_cell? _ _ c0
        have hbl2 := World.block_lt_of_cell? _ _ d0
        have hb1 : Below wr.heap.size wr (wr.alloc (.cells #[.string s.n, .slice s.a s.ds.length s.c] 40)) := (Below.refl _ wr).alloc (Nat.le_refl _) _
        have hb2 : Below wr.heap.size wr ((wr.alloc (.cells #[.string s.n, .slice s.a s.ds.length s.c] 40)).alloc (.cells #[.string t.n, .slice t.a t.ds.length t.c] 40)) := hb1.alloc hb1.size _
        have hbw := hbr.trans (hb2.mono hbr.size)
        have hc := sameR_any s t _ ((hl.alts s m1).grown hbw) ((hm.alts t m2).grown hbw)
        obtain ⟨S, hS⟩ : ∃ S, Hid (sameR s t = S) := ⟨_, Lib.hid rfl⟩
        rw [hS.out] at hc
        have hA := Blk.new wr 40 #[.string s.n, .slice s.a s.ds.length s.c]
        have hB := Blk.new (wr.alloc (.cells #[.string s.n, .slice s.a s.ds.length s.c] 40)) 40 #[.string t.n, .slice t.a t.ds.length t.c]
        obtain ⟨SL, HSL⟩ : ∃ L, Hid (s.ds.length = L) := ⟨_, Lib.hid rfl⟩
        obtain ⟨TL, HTL⟩ : ∃ L, Hid (t.ds.length = L) := ⟨_, Lib.hid rfl⟩
        rw [HSL.out] at hb1 hb2 hbw hc hA hB c1
        rw [HTL.out] at hb2 hbw hc hB d1
        have Hc := Lib.hid hc
        have x0 := hA.cell 0
        have x1 := hA.cell 1
        have xl := hA.lt
        have y0 := hB.cell 0
        have y1 := hB.cell 1
        have yl := hB.lt
        simp only [List.getElem?_cons_zero, List.getElem?_cons_succ] at x0 x1 y0 y1
        clear hc m1 m2 hA hB
        go_wp2_with (fail)
        refine Hc.out.mono ?_
        rintro r w3 ⟨rfl, hb3⟩
        have hb4 := hbw.trans (hb3.mono hbw.size)
        cases S
        · have hF := Lib.hid (hne.out (of_decide_eq_false hS.out))
          go_wp2_with (fail)
          exact bodyPost_ret (v := .bool false) (by simp [results, Try.results24, go_sem]; try rfl) rfl ⟨by rw [hF.out], hb4⟩
        · have hE := Lib.hid (of_decide_eq_true hS.out)
          go_wp2_with (fail)
          exact ⟨⟨k + 1, by omega, by simp, Lib.hid (by rw [hmore.out.1, hmore.out.2, HR.out, hE.out]), hb4⟩, by simp [intOf]; omega⟩
      · obtain rfl : k = L := by omega
        have hT : Hid (R = true) := Lib.hid (by
          rw [← hR.out]
          refine decide_eq_true ?_
          have := HR.out
          rwa [List.take_of_length_le (by rw [HL.out]; exact Nat.le_refl _), List.take_of_length_le (by rw [HM.out]; exact Nat.le_refl _)] at this)
        go_wp2_with (fail)
        exact bodyPost_ret (v := .bool true) (by simp [results, Try.results24, go_sem]; try rfl) rfl ⟨by rw [hT.out], hbr⟩
  · have hF : Hid (R = false) := Lib.hid (by
      rw [← hR.out]
      exact decide_eq_false (fun e => hLM (by have := congrArg List.length e; unfold grP at this; rw [List.length_map, List.length_map, HL.out, HM.out] at this; exact this)))
    have hne : ((L : Int) == (M : Int)) = false := by rw [beq_eq_false_iff_ne]; omega
    go_enter Try.func24, Try.ntmps24
    go_wp2_with (fail)
    all_goals first
      | exact bodyPost_ret (v := .bool false) (by simp [results, Try.results24, go_sem]; try rfl) rfl ⟨by rw [hF.out], Below.refl _ w⟩
      | (exfalso; omega)

set_option maxRecDepth 100000 in
set_option maxHeartbeats 1000000 in
theorem gsame_any (a b : Option Addr) (ac bc : Nat) (l m : List RlD) (w : World) (hl : Rls w a ac l) (hm : Rls w b bc m) :
    Calls Try.prog 14 #[.agg #[.slice a l.length ac], .agg #[.slice b m.length bc]] w fun e w' => e = .returned (.bool (decide (grP l = grP m))) ∧ Below w.heap.size w w' := by
  have hb1 : Below w.heap.size w (w.alloc (.cells #[.slice a l.length ac] 24)) := (Below.refl _ w).alloc (Nat.le_refl _) _
  have hb2 : Below w.heap.size w ((w.alloc (.cells #[.slice a l.length ac] 24)).alloc (.cells #[.slice b m.length bc] 24)) := hb1.alloc hb1.size _
  have hc := eqRules_any a b ac bc l m _ (hl.grown hb2) (hm.grown hb2)
  obtain ⟨R, hR⟩ : ∃ R, Hid (decide (grP l = grP m) = R) := ⟨_, Lib.hid rfl⟩
  rw [hR.out] at hc ⊢
  have hA := Blk.new w 24 #[.slice a l.length ac]
  have hB := Blk.new (w.alloc (.cells #[.slice a l.length ac] 24)) 24 #[.slice b m.length bc]
  obtain ⟨L, HL⟩ : ∃ L, Hid (l.length = L) := ⟨_, Lib.hid rfl⟩
  obtain ⟨M, HM⟩ : ∃ L, Hid (m.length = L) := ⟨_, Lib.hid rfl⟩
  rw [HL.out] at hb1 hb2 hc hA hB ⊢
  rw [HM.out] at hb2 hc hB ⊢
  have Hc := Lib.hid hc
  have x0 := hA.cell 0
  have xl := hA.lt
  have y0 := hB.cell 0
  have yl := hB.lt
  simp only [List.getElem?_cons_zero] at x0 y0
  clear hc hA hB
  go_enter Try.func14, Try.ntmps14
  go_wp2_with (fail)
  refine Hc.out.mono ?_
  rintro r w3 ⟨rfl, hb3⟩
  go_wp2_with (fail)
  exact bodyPost_ret (v := .bool R) (by simp [results, Try.results14, go_sem]; try rfl) rfl ⟨rfl, hb2.trans (hb3.mono hb2.size)⟩
end Go.Proofs.Ytoaabfdilhbajaa
