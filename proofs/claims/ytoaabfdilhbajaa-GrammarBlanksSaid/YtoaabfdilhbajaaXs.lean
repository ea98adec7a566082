/- Layer 7: grammar.Same. -/
import Derived.Test.YtoaabfdilhbajaaXr
namespace Go.Proofs.Ytoaabfdilhbajaa
open Go.RowKit Go.Shelf

attribute [local go_sem] Oper.semAt_some

theorem altv (d : AltD) : d.v = .slice d.a d.l.length d.c := rfl
set_option maxRecDepth 100000 in
set_option maxHeartbeats 1000000 in
theorem eqAlts_any (a b : Option Addr) (ac bc : Nat) (l m : List AltD) (w : World) (hl : Alts w a ac l) (hm : Alts w b bc m) :
    Calls Try.prog 26 #[.slice a l.length ac, .slice b m.length bc, fV 27] w fun e w' => e = .returned (.bool (decide (l.map AltD.l = m.map AltD.l))) ∧ Below w.heap.size w w' := by
  have hle : l.length ≤ ac := by have := hl.row.le; rwa [List.length_map] at this
  have hmx := hl.row.max
  have hle2 : m.length ≤ bc := by have := hm.row.le; rwa [List.length_map] at this
  have hmx2 := hm.row.max
  obtain ⟨L, HL⟩ : ∃ L, Hid (l.length = L) := ⟨_, Lib.hid rfl⟩
  obtain ⟨M, HM⟩ : ∃ L, Hid (m.length = L) := ⟨_, Lib.hid rfl⟩
  rw [HL.out] at hle ⊢
  rw [HM.out] at hle2 ⊢
  obtain ⟨R, hR⟩ : ∃ R, Hid (decide (l.map AltD.l = m.map AltD.l) = R) := ⟨_, Lib.hid rfl⟩
  rw [hR.out]
  by_cases hLM : L = M
  · subst hLM
    go_enter Try.func26, Try.ntmps26
    go_wp2_with (fail)
    go_loopw [17] (fun i wr => ∃ (k : Nat), k ≤ L ∧ i = .int .i64 (k : Int) ∧ Hid ((l.take k).map AltD.l = (m.take k).map AltD.l) ∧ Below w.heap.size w wr) (fun i _ => L - (intOf i).toNat)
    case atStart => exact ⟨0, by omega, rfl, Lib.hid rfl, Below.refl _ w⟩
    case round =>
      obtain ⟨k, hk, rfl, HR, hbr⟩ := hrel
      by_cases hlt : k < L
      · have hkl : k < l.length := by rw [HL.out]; exact hlt
        have hkm : k < m.length := by rw [HM.out]; exact hlt
        have hkI : (k : Int) < (L : Int) := by omega
        have hkI0 : (0 : Int) ≤ (k : Int) := by omega
        obtain ⟨b1, o1, rfl⟩ := hl.row.at_ k (by rw [List.length_map]; exact hkl)
        obtain ⟨b2, o2, rfl⟩ := hm.row.at_ k (by rw [List.length_map]; exact hkm)
        have c0 := (hl.grown hbr).row.cell b1 o1 rfl k (by rw [List.length_map]; exact hkl)
        have d0 := (hm.grown hbr).row.cell b2 o2 rfl k (by rw [List.length_map]; exact hkm)
        rw [List.getElem_map] at c0 d0
        have m1 : l[k] ∈ l := List.getElem_mem hkl
        have m2 : m[k] ∈ m := List.getElem_mem hkm
        obtain ⟨s, HS⟩ : ∃ s, Hid (l[k] = s) := ⟨_, Lib.hid rfl⟩
        obtain ⟨t, HT⟩ : ∃ s, Hid (m[k] = s) := ⟨_, Lib.hid rfl⟩
        rw [HS.out] at c0 m1
        rw [HT.out] at d0 m2
        have hmore : Hid ((l.take (k + 1)).map AltD.l = (l.take k).map AltD.l ++ [s.l] ∧ (m.take (k + 1)).map AltD.l = (m.take k).map AltD.l ++ [t.l]) := Lib.hid ⟨by rw [List.take_add_one, List.getElem?_eq_getElem hkl, HS.out, List.map_append]; rfl, by rw [List.take_add_one, List.getElem?_eq_getElem hkm, HT.out, List.map_append]; rfl⟩
        have hne : Hid (s.l ≠ t.l → R = false) := Lib.hid (fun h => by
          rw [← hR.out]
          refine decide_eq_false (fun e => h ?_)
          have h1 : (l.map AltD.l)[k]'(by rw [List.length_map]; exact hkl) = s.l := by rw [List.getElem_map, HS.out]
          have h2 : (m.map AltD.l)[k]'(by rw [List.length_map]; exact hkm) = t.l := by rw [List.getElem_map, HT.out]
          rw [← h1, ← h2]
          simp only [e])
        have hbl := World.block_lt_of_cell? _ _ c0
        have hbl2 := World.block_lt_of_cell? _ _ d0
        have hc := sEqual_any s.a t.a s.c t.c s.l t.l wr ((hl.nms s m1).grown hbr) ((hm.nms t m2).grown hbr)
        obtain ⟨S, hS⟩ : ∃ S, Hid (decide (s.l = t.l) = S) := ⟨_, Lib.hid rfl⟩
        rw [hS.out] at hc
        have Hc := Lib.hid hc
        rw [altv] at c0 d0
        clear hc m1 m2
        go_wp2_with (fail)
        refine Hc.out.mono ?_
        rintro r w3 ⟨rfl, hb3⟩
        have hb4 := hbr.trans (hb3.mono hbr.size)
        cases S
        · have hF := Lib.hid (hne.out (of_decide_eq_false hS.out))
          go_wp2_with (fail)
          exact bodyPost_ret (v := .bool false) (by simp [results, Try.results26, go_sem]; try rfl) rfl ⟨by rw [hF.out], hb4⟩
        · have hE := Lib.hid (of_decide_eq_true hS.out)
          go_wp2_with (fail)
          exact ⟨⟨k + 1, by omega, by simp, Lib.hid (by rw [hmore.out.1, hmore.out.2, HR.out, hE.out]), hb4⟩, by simp [intOf]; omega⟩
      · obtain rfl : k = L := by omega
        have hT : Hid (R = true) := Lib.hid (by
          rw [← hR.out]
          refine decide_eq_true ?_
          have := HR.out
          rwa [List.take_of_length_le (by rw [HL.out]; exact Nat.le_refl _), List.take_of_length_le (by rw [HM.out]; exact Nat.le_refl _)] at this)
        go_wp2_with (fail)
        exact bodyPost_ret (v := .bool true) (by simp [results, Try.results26, go_sem]; try rfl) rfl ⟨by rw [hT.out], hbr⟩
  · have hF : Hid (R = false) := Lib.hid (by
      rw [← hR.out]
      exact decide_eq_false (fun e => hLM (by have := congrArg List.length e; rw [List.length_map, List.length_map, HL.out, HM.out] at this; exact this)))
    have hne : ((L : Int) == (M : Int)) = false := by rw [beq_eq_false_iff_ne]; omega
    go_enter Try.func26, Try.ntmps26
    go_wp2_with (fail)
    all_goals first
      | exact bodyPost_ret (v := .bool false) (by simp [results, Try.results26, go_sem]; try rfl) rfl ⟨by rw [hF.out], Below.refl _ w⟩
      | (exfalso; omega)

def sameR (r q : RlD) : Bool := decide (r.p = q.p)
theorem sameR_ne {r q : RlD} (h : ¬ r.n = q.n) : sameR r q = false := decide_eq_false (fun e => h (congrArg Prod.fst e))
theorem sameR_eq {r q : RlD} (h : r.n = q.n) : sameR r q = decide (r.ds.map AltD.l = q.ds.map AltD.l) := by
  unfold sameR
  exact decide_eq_decide.2 ⟨fun e => congrArg Prod.snd e, fun e => Prod.ext h e⟩
set_option maxRecDepth 100000 in
set_option maxHeartbeats 1000000 in
theorem sameR_any (r q : RlD) (w : World) (hr : Alts w r.a r.c r.ds) (hq : Alts w q.a q.c q.ds) :
    Calls Try.prog 25 #[.agg #[.string r.n, .slice r.a r.ds.length r.c], .agg #[.string q.n, .slice q.a q.ds.length q.c]] w fun e w' => e = .returned (.bool (sameR r q)) ∧ Below w.heap.size w w' := by
  have hb1 : Below w.heap.size w (w.alloc (.cells #[.string r.n, .slice r.a r.ds.length r.c] 40)) := (Below.refl _ w).alloc (Nat.le_refl _) _
  have hb2 : Below w.heap.size w ((w.alloc (.cells #[.string r.n, .slice r.a r.ds.length r.c] 40)).alloc (.cells #[.string q.n, .slice q.a q.ds.length q.c] 40)) := hb1.alloc hb1.size _
  have Hc := Lib.hid (eqAlts_any r.a q.a r.c q.c r.ds q.ds _ (hr.grown hb2) (hq.grown hb2))
  have hA := Blk.new w 40 #[.string r.n, .slice r.a r.ds.length r.c]
  have hB := Blk.new (w.alloc (.cells #[.string r.n, .slice r.a r.ds.length r.c] 40)) 40 #[.string q.n, .slice q.a q.ds.length q.c]
  have S1 := Lib.hid (fun h => sameR_ne (r := r) (q := q) h)
  have S2 := Lib.hid (fun h => sameR_eq (r := r) (q := q) h)
  obtain ⟨L, HL⟩ : ∃ L, Hid (r.ds.length = L) := ⟨_, Lib.hid rfl⟩
  obtain ⟨M, HM⟩ : ∃ L, Hid (q.ds.length = L) := ⟨_, Lib.hid rfl⟩
  rw [HL.out] at hb1 hb2 Hc hA hB ⊢
  rw [HM.out] at hb2 Hc hB ⊢
  obtain ⟨R, hR⟩ : ∃ R, Hid (sameR r q = R) := ⟨_, Lib.hid rfl⟩
  rw [hR.out] at S1 S2 ⊢
  obtain ⟨s, HS⟩ : ∃ s, Hid (r.n = s) := ⟨_, Lib.hid rfl⟩
  obtain ⟨t, HT⟩ : ∃ s, Hid (q.n = s) := ⟨_, Lib.hid rfl⟩
  rw [HS.out] at hb1 hb2 Hc hA hB S1 S2 ⊢
  rw [HT.out] at hb2 Hc hB S1 S2 ⊢
  have x0 := hA.cell 0
  have x1 := hA.cell 1
  have xl := hA.lt
  have y0 := hB.cell 0
  have y1 := hB.cell 1
  have yl := hB.lt
  simp only [List.getElem?_cons_zero, List.getElem?_cons_succ] at x0 x1 y0 y1
  clear hA hB
  by_cases e1 : s = t
  · subst e1
    have hE := Lib.hid (S2.out rfl)
    go_enter Try.func25, Try.ntmps25
    go_wp2_with (fail)
    refine Hc.out.mono ?_
    rintro e w3 ⟨rfl, hb3⟩
    rw [← hE.out]
    go_wp2_with (fail)
    exact bodyPost_ret (v := .bool R) (by simp [results, Try.results25, go_sem]; try rfl) rfl ⟨rfl, hb2.trans (hb3.mono hb2.size)⟩
  · have e3 : (s.toList == t.toList) = false := str_ne e1
    have hF := Lib.hid (S1.out e1)
    go_enter Try.func25, Try.ntmps25
    go_wp2_with (fail)
    exact bodyPost_ret (v := .bool false) (by simp [results, Try.results25, go_sem]; try rfl) rfl ⟨by rw [hF.out], hb2⟩
end Go.Proofs.Ytoaabfdilhbajaa
