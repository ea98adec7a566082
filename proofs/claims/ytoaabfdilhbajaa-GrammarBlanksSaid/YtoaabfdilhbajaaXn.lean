/- Layer 7: grammar.Check. -/
import Derived.Test.YtoaabfdilhbajaaXl
namespace Go.Proofs.Ytoaabfdilhbajaa
open Go.RowKit Go.Shelf

attribute [local go_sem] Oper.semAt_some

def mayR (r : RlD) : Bool := nameB r.n && decide (r.ds.length ≠ 0) && r.ds.all (fun d => d.l.all nameB)
def mayG (rs : List RlD) : Bool := rs.all mayR && decide (0 < rs.length)
def chkG (rs : List RlD) : Int := if mayG rs then if longG rs then 2 else 0 else 1

set_option maxRecDepth 100000 in
set_option maxHeartbeats 1000000 in
theorem areNames_any (l : List ByteArray) (a : Option Addr) (cap : Nat) (w : World) (hl : Nms w a cap l) :
    Calls Try.prog 35 #[.slice a l.length cap] w fun r w' => r = .returned (.bool (l.all nameB)) ∧ w' = w := by
  have hlm : l.length ≤ cap ∧ cap ≤ 9223372036854775807 := ⟨by have := hl.le; rw [List.length_map] at this; exact this, hl.max⟩
  obtain ⟨L, HL⟩ : ∃ L, Hid (l.length = L) := ⟨_, Lib.hid rfl⟩
  rw [HL.out] at hlm ⊢
  obtain ⟨R, hR⟩ : ∃ R, Hid (l.all nameB = R) := ⟨_, Lib.hid rfl⟩
  rw [hR.out]
  go_enter Try.func35, Try.ntmps35
  go_wp2_with (fail)
  go_loopw [7] (fun iv wr => ∃ k : Nat, k ≤ L ∧ iv = .int .i64 (k : Int) ∧ R = (l.drop k).all nameB ∧ wr = w) (fun iv _ => L - (intOf iv).toNat)
  case atStart => exact ⟨0, Nat.zero_le _, rfl, hR.out.symm, rfl⟩
  case round =>
    obtain ⟨k, hk, rfl, hr, hbr⟩ := hrel
    subst hbr
    have HR := Lib.hid hr
    clear hr
    by_cases hlt : k < L
    · have hkI : (k : Int) < (L : Int) := by omega
      have hkI0 : (0 : Int) ≤ (k : Int) := by omega
      have hkl : k < l.length := by rw [HL.out]; exact hlt
      obtain ⟨b, off, rfl⟩ := hl.at_ k (by rw [List.length_map]; exact hkl)
      have c0 := hl.cell b off rfl k (by rw [List.length_map]; exact hkl)
      rw [List.getElem_map] at c0
      have hdr : Hid (l.drop k = l[k] :: l.drop (k + 1)) := Lib.hid (List.drop_eq_getElem_cons hkl)
      obtain ⟨e, he⟩ : ∃ v, Hid (l[k] = v) := ⟨_, Lib.hid rfl⟩
      rw [he.out] at c0
      have hbl := World.block_lt_of_cell? _ _ c0
      have hc := isName_any e wr
      obtain ⟨S, hS⟩ : ∃ S, Hid (nameB e = S) := ⟨_, Lib.hid rfl⟩
      rw [hS.out] at hc
      have Hc := Lib.hid hc
      clear hc
      go_wp2_with (fail)
      refine Hc.out.mono ?_
      rintro r w3 ⟨rfl, hw3⟩
      subst w3
      cases S
      · have hF : Hid (R = false) := Lib.hid (by rw [HR.out, hdr.out, List.all_cons, he.out, hS.out, Bool.false_and])
        go_wp2_with (fail)
        exact bodyPost_ret (v := .bool false) (by simp [results, Try.results35, go_sem]; try first | rfl | assumption | omega) rfl ⟨by rw [hF.out], rfl⟩
      · go_wp2_with (fail)
        exact ⟨⟨k + 1, by omega, by simp, by rw [HR.out, hdr.out, List.all_cons, he.out, hS.out, Bool.true_and], by first | rfl | trivial⟩, by simp [intOf]; omega⟩
    · obtain rfl : k = L := by omega
      have hkI : ¬ (k : Int) < (k : Int) := by omega
      have hT : Hid (R = true) := Lib.hid (by rw [HR.out, List.drop_eq_nil_of_le (by rw [HL.out]; exact Nat.le_refl _)]; rfl)
      go_wp2_with (fail)
      exact bodyPost_ret (v := .bool true) (by simp [results, Try.results35, go_sem]; try first | rfl | assumption | omega) rfl ⟨by rw [hT.out], rfl⟩

set_option maxRecDepth 100000 in
set_option maxHeartbeats 2000000 in
theorem mayBe_any (rs : List RlD) (a : Option Addr) (cap : Nat) (w : World) (hl : Rls w a cap rs) :
    Calls Try.prog 20 #[.agg #[.slice a rs.length cap]] w fun r w' => r = .returned (.bool (mayG rs)) ∧ Below w.heap.size w w' := by
  have hlm : rs.length ≤ cap ∧ cap ≤ 9223372036854775807 := ⟨hl.le, hl.max⟩
  have hA0 := Blk.new w 24 #[.slice a rs.length cap]
  have hb0 : Below w.heap.size w (w.alloc (.cells #[.slice a rs.length cap] 24)) := (Below.refl _ w).alloc (Nat.le_refl _) _
  have hs0 : w.heap.size < (w.alloc (.cells #[.slice a rs.length cap] 24)).heap.size := by simp [go_sem]
  unfold mayG
  obtain ⟨L, HL⟩ : ∃ L, Hid (rs.length = L) := ⟨_, Lib.hid rfl⟩
  rw [HL.out] at hlm hA0 hb0 hs0 ⊢
  obtain ⟨R, hR⟩ : ∃ R, Hid (rs.all mayR = R) := ⟨_, Lib.hid rfl⟩
  rw [hR.out]
  obtain ⟨G, hG⟩ : ∃ G, Hid ((R && decide (0 < L)) = G) := ⟨_, Lib.hid rfl⟩
  rw [hG.out]
  have x0 := hA0.cell 0
  have xl := hA0.lt
  simp only [List.getElem?_cons_zero] at x0
  go_enter Try.func20, Try.ntmps20
  go_wp2_with (fail)
  generalize hW : World.alloc w _ = W at x0 xl hA0 hb0 hs0 ⊢
  have HW := Lib.hid hW
  clear hW hA0
  go_loopw [10] (fun iv wr => ∃ k : Nat, k ≤ L ∧ iv = .int .i64 (k : Int) ∧ Hid (R = (rs.drop k).all mayR) ∧ Below W.heap.size W wr) (fun iv _ => L - (intOf iv).toNat)
  case atStart => exact ⟨0, Nat.zero_le _, rfl, Lib.hid hR.out.symm, Below.refl _ _⟩
  case round =>
    obtain ⟨k, hk, rfl, HR, hbr⟩ := hrel
    have hbw := hb0.trans (hbr.mono hb0.size)
    by_cases hlt : k < L
    · have hkI : (k : Int) < (L : Int) := by omega
      have hkI0 : (0 : Int) ≤ (k : Int) := by omega
      have hkl : k < rs.length := by rw [HL.out]; exact hlt
      obtain ⟨b, off, rfl⟩ := hl.at_ k hkl
      obtain ⟨c0, c1⟩ := (hl.grown hbw).cell b off rfl k hkl
      have hdr : Hid (rs.drop k = rs[k] :: rs.drop (k + 1)) := Lib.hid (List.drop_eq_getElem_cons hkl)
      have hm : rs[k] ∈ rs := List.getElem_mem hkl
      obtain ⟨e, he⟩ : ∃ v, Hid (rs[k] = v) := ⟨_, Lib.hid rfl⟩
      rw [he.out] at c0 c1 hm
      have hbl := World.block_lt_of_cell? wr _ c0
      have hal := Lib.hid (hl.alts e hm)
      have hB0 := Blk.new wr 40 #[.string e.n, .slice e.a e.ds.length e.c]
      have hb1 : Below wr.heap.size wr (wr.alloc (.cells #[.string e.n, .slice e.a e.ds.length e.c] 40)) := (Below.refl _ wr).alloc (Nat.le_refl _) _
      have hem : e.ds.length ≤ e.c ∧ e.c ≤ 9223372036854775807 := ⟨by have := hal.out.row.le; rw [List.length_map] at this; exact this, hal.out.row.max⟩
      obtain ⟨M, HM⟩ : ∃ M, Hid (e.ds.length = M) := ⟨_, Lib.hid rfl⟩
      rw [HM.out] at hB0 hb1 c1 hem
      have y0 := hB0.cell 0
      have y1 := hB0.cell 1
      have yl := hB0.lt
      simp only [List.getElem?_cons_zero, List.getElem?_cons_succ] at y0 y1
      have HRs : Hid (R = (mayR e && (rs.drop (k + 1)).all mayR)) := Lib.hid (by rw [HR.out, hdr.out, List.all_cons, he.out])
      have HmR : Hid (mayR e = (nameB e.n && decide (M ≠ 0) && e.ds.all (fun d => d.l.all nameB))) := Lib.hid (by unfold mayR; rw [HM.out])
      clear hm hB0
      have Hc := Lib.hid (isName_any e.n (wr.alloc (.cells #[.string e.n, .slice e.a M e.c] 40)))
      obtain ⟨S, hS⟩ : ∃ S, Hid (nameB e.n = S) := ⟨_, Lib.hid rfl⟩
      rw [hS.out] at Hc HmR
      cases S
      · have hF : Hid (R = false) := Lib.hid (by rw [HRs.out, HmR.out]; rfl)
        go_wp2_with (fail)
        refine Hc.out.mono ?_
        rintro r w3 ⟨rfl, hw3⟩
        subst w3
        go_wp2_with (fail)
        exact bodyPost_ret (v := .bool false) (by simp [results, Try.results20, go_sem]; try first | rfl | assumption | omega) rfl ⟨by rw [← hG.out, hF.out]; rfl, hbw.trans (hb1.mono hbw.size)⟩
      · by_cases hM : M = 0
        · have hF : Hid (R = false) := Lib.hid (by rw [HRs.out, HmR.out, hM]; rfl)
          have hMI : (M : Int) = 0 := by omega
          clear hM
          go_wp2_with (fail)
          refine Hc.out.mono ?_
          rintro r w3 ⟨rfl, hw3⟩
          subst w3
          go_wp2_with (fail)
          exact bodyPost_ret (v := .bool false) (by simp [results, Try.results20, go_sem]; try first | rfl | assumption | omega) rfl ⟨by rw [← hG.out, hF.out]; rfl, hbw.trans (hb1.mono hbw.size)⟩
        · have hMI : ¬ (M : Int) = 0 := by omega
          obtain ⟨Q, hQ⟩ : ∃ Q, Hid (e.ds.all (fun d => d.l.all nameB) = Q) := ⟨_, Lib.hid rfl⟩
          have HRq : Hid (R = (Q && (rs.drop (k + 1)).all mayR)) := Lib.hid (by rw [HRs.out, HmR.out, hQ.out, decide_eq_true hM]; rfl)
          go_wp2_with (fail)
          refine Hc.out.mono ?_
          rintro r w3 ⟨rfl, hw3⟩
          subst w3
          go_wp2_with (fail)
          generalize hV : World.alloc wr _ = V at y0 y1 yl hb1 ⊢
          clear hV Hc
          have hMB : ((M : Int) == 0) = false := by simpa using hMI
          simp only [hMB]
          clear hMB
          go_loopw [27] (fun iv wr => ∃ j : Nat, j ≤ M ∧ iv = .int .i64 (j : Int) ∧ Hid (Q = (e.ds.drop j).all (fun d => d.l.all nameB)) ∧ wr = V) (fun iv _ => M - (intOf iv).toNat)
          case atStart => exact ⟨0, Nat.zero_le _, rfl, Lib.hid hQ.out.symm, rfl⟩
          case round =>
            obtain ⟨j, hj, rfl, HQ, hwx⟩ := hrel
            have HWX := Lib.hid hwx
            clear hwx
            have hbV : Below w.heap.size w wr := by rw [HWX.out]; exact hbw.trans (hb1.mono hbw.size)
            by_cases hjt : j < M
            · have hjI : (j : Int) < (M : Int) := by omega
              have hjI0 : (0 : Int) ≤ (j : Int) := by omega
              have hjl : j < e.ds.length := by rw [HM.out]; exact hjt
              obtain ⟨eb, eo, hea⟩ := hal.out.row.at_ j (by rw [List.length_map]; exact hjl)
              have c2 := (hal.out.grown hbV).row.cell eb eo hea j (by rw [List.length_map]; exact hjl)
              rw [List.getElem_map] at c2
              have hd2 : Hid (e.ds.drop j = e.ds[j] :: e.ds.drop (j + 1)) := Lib.hid (List.drop_eq_getElem_cons hjl)
              have hm2 : e.ds[j] ∈ e.ds := List.getElem_mem hjl
              obtain ⟨d, hd⟩ : ∃ v, Hid (e.ds[j] = v) := ⟨_, Lib.hid rfl⟩
              rw [hd.out] at c2 hm2
              have hbl2 := World.block_lt_of_cell? _ _ c2
              have hc2 := areNames_any d.l d.a d.c wr ((hal.out.nms d hm2).grown hbV)
              obtain ⟨S2, hS2⟩ : ∃ S, Hid (d.l.all nameB = S) := ⟨_, Lib.hid rfl⟩
              rw [hS2.out] at hc2
              have Hc2 := Lib.hid hc2
              clear hc2 hm2
              rw [hea]
              go_wp2_with (fail)
              refine Hc2.out.mono ?_
              rintro r w3 ⟨rfl, hw3⟩
              obtain rfl : wr = w3 := hw3.symm
              cases S2
              · have hF : Hid (R = false) := Lib.hid (by rw [HRq.out, HQ.out, hd2.out, List.all_cons, hd.out, hS2.out]; rfl)
                go_wp2_with (fail)
                exact bodyPost_ret (v := .bool false) (by simp [results, Try.results20, go_sem]; try first | rfl | assumption | omega) rfl ⟨by rw [← hG.out, hF.out]; rfl, hbV⟩
              · go_wp2_with (fail)
                exact ⟨⟨j + 1, by omega, by simp, Lib.hid (by rw [HQ.out, hd2.out, List.all_cons, hd.out, hS2.out, Bool.true_and]), HWX.out⟩, by simp [intOf]; omega⟩
            · obtain rfl : j = M := by omega
              have hjI : ¬ (j : Int) < (j : Int) := by omega
              have hT : Hid (R = (rs.drop (k + 1)).all mayR) := Lib.hid (by rw [HRq.out, HQ.out, List.drop_eq_nil_of_le (by rw [HM.out]; exact Nat.le_refl _)]; rfl)
              go_wp2_with (fail)
              exact ⟨⟨k + 1, by omega, by simp, hT, by rw [HWX.out]; exact hbr.trans (hb1.mono hbr.size)⟩, by simp [intOf]; omega⟩
    · obtain rfl : k = L := by omega
      have hkI : ¬ (k : Int) < (k : Int) := by omega
      have hT : Hid (R = true) := Lib.hid (by rw [HR.out, List.drop_eq_nil_of_le (by rw [HL.out]; exact Nat.le_refl _)]; rfl)
      have x1 := cell_up hbr x0
      by_cases h0 : 0 < k
      · have h0I : (0 : Int) < (k : Int) := by omega
        have hF : Hid (G = true) := Lib.hid (by rw [← hG.out, hT.out, decide_eq_true h0]; rfl)
        go_wp2_with (fail)
        exact bodyPost_ret (v := .bool true) (by simp [results, Try.results20, go_sem]; try first | rfl | assumption | omega) rfl ⟨by rw [hF.out], hbw⟩
      · have h0I : ¬ (0 : Int) < (k : Int) := by omega
        have hF : Hid (G = false) := Lib.hid (by rw [← hG.out, decide_eq_false h0]; exact Bool.and_false _)
        go_wp2_with (fail)
        exact bodyPost_ret (v := .bool false) (by simp [results, Try.results20, go_sem]; try first | rfl | assumption | omega) rfl ⟨by rw [hF.out], hbw⟩

set_option maxRecDepth 100000 in
set_option maxHeartbeats 1000000 in
theorem gcheck_any (rs : List RlD) (a : Option Addr) (cap : Nat) (w : World) (hl : Rls w a cap rs) :
    Calls Try.prog 12 #[.agg #[.slice a rs.length cap]] w fun r w' => r = .returned (.int .i64 (chkG rs)) ∧ Below w.heap.size w w' := by
  have hA0 := Blk.new w 24 #[.slice a rs.length cap]
  have hb0 : Below w.heap.size w (w.alloc (.cells #[.slice a rs.length cap] 24)) := (Below.refl _ w).alloc (Nat.le_refl _) _
  have Hc1 := Lib.hid (mayBe_any rs a cap _ (hl.grown hb0))
  have Hc2 := Lib.hid (fun (w2 : World) (h : Below w.heap.size w w2) => longG_any rs a cap w2 (hl.grown h))
  unfold chkG
  obtain ⟨M, hM⟩ : ∃ M, Hid (mayG rs = M) := ⟨_, Lib.hid rfl⟩
  obtain ⟨G, hG⟩ : ∃ G, Hid (longG rs = G) := ⟨_, Lib.hid rfl⟩
  rw [hM.out] at Hc1 ⊢
  rw [hG.out] at Hc2 ⊢
  obtain ⟨L, HL⟩ : ∃ L, Hid (rs.length = L) := ⟨_, Lib.hid rfl⟩
  rw [HL.out] at hA0 hb0 Hc1 Hc2 ⊢
  have x0 := hA0.cell 0
  have xl := hA0.lt
  simp only [List.getElem?_cons_zero] at x0
  cases M
  · go_enter Try.func12, Try.ntmps12
    go_wp2_with (fail)
    refine Hc1.out.mono ?_
    rintro r w1 ⟨rfl, hb1⟩
    go_wp2_with (fail)
    exact bodyPost_ret (v := .int .i64 1) (by simp [results, Try.results12, go_sem]; try first | rfl | assumption | omega) rfl ⟨rfl, hb0.trans (hb1.mono hb0.size)⟩
  · have HG : Hid ((if G = true then (2 : Int) else 0) = if G then 2 else 0) := Lib.hid rfl
    go_enter Try.func12, Try.ntmps12
    go_wp2_with (fail)
    refine Hc1.out.mono ?_
    rintro r w1 ⟨rfl, hb1⟩
    have x1 := cell_up hb1 x0
    have hb2 := hb0.trans (hb1.mono hb0.size)
    have Hd := Lib.hid (Hc2.out w1 hb2)
    go_wp2_with (fail)
    refine Hd.out.mono ?_
    rintro r w3 ⟨rfl, hb3⟩
    have hb4 := hb2.trans (hb3.mono hb2.size)
    cases G
    · go_wp2_with (fail)
      exact bodyPost_ret (v := .int .i64 0) (by simp [results, Try.results12, go_sem]; try first | rfl | assumption | omega) rfl ⟨rfl, hb4⟩
    · go_wp2_with (fail)
      exact bodyPost_ret (v := .int .i64 2) (by simp [results, Try.results12, go_sem]; try first | rfl | assumption | omega) rfl ⟨rfl, hb4⟩
end Go.Proofs.Ytoaabfdilhbajaa
