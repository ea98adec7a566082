/- Texts joined: Xl Xn Xq Xr Xs Xt Xu Xv Yd Ye Yf Bc Bd Be Bf Bg Bh Bi Bj Bk Bl Bm. -/
import Derived.Test.YtiopbjgpaidemaaJAb
import Derived.BigRegion
import Derived.Deep.RegionHeld3
import Derived.Test.YtiopbjgpaidemaaJAa
import Derived.Lib.AppendZeros
set_option linter.unusedVariables false
set_option linter.unusedSimpArgs false
namespace Go.Proofs.Ytiopbjgpaidemaa
open Go.RowKit Go.Shelf

/-- A row that is one's own lies as a row. -/
theorem own_vs {w : World} {base n cap : Nat} {e : TypeId} {a : Option Addr} {xs : List Value} (h : w.ownsRow base e 1 (.slice a n cap) n xs) : Vs w a cap xs := by
  have hn : xs.length = n := by have := h.1; omega
  rcases h.2 with ⟨e1, e0⟩ | ⟨g, cp, cur, e1, hb, hk, hnc, hcm, _⟩
  · injection e1 with e1 e2 e3
    exact ⟨by omega, by omega, fun _ => e3, fun i hi => by omega, fun b off e => (by rw [e1] at e; cases e)⟩
  · injection e1 with e1 e2 e3
    refine ⟨by omega, by unfold maxLen at hcm; omega, fun e => (by rw [e1] at e; cases e), fun i hi => ⟨g, 0, e1⟩, fun b off e i hi => ?_⟩
    rw [e1] at e
    cases e
    subst e1
    have := World.ownsRow.cellAt h i (by omega)
    rw [Nat.zero_add, this]
    exact List.getElem?_eq_getElem hi
theorem cells_at : ∀ (rs : List RlD) (i : Nat) (hi : i < rs.length), (rs.flatMap RlD.cells)[i * 2]? = some (.string rs[i].n) ∧ (rs.flatMap RlD.cells)[i * 2 + 1]? = some (.slice rs[i].a rs[i].ds.length rs[i].c)
  | [], i, hi => by simp at hi
  | r :: rs, 0, hi => by simp [RlD.cells]
  | r :: rs, i + 1, hi => by
    have := cells_at rs i (by simpa using hi)
    rw [List.flatMap_cons, show (i + 1) * 2 = i * 2 + 2 by omega, show i * 2 + 2 + 1 = (i * 2 + 1) + 2 by omega]
    rw [List.getElem?_append_right (by simp [RlD.cells]), List.getElem?_append_right (by simp [RlD.cells])]
    simpa [RlD.cells] using this
end Go.Proofs.Ytiopbjgpaidemaa

namespace Go.Proofs.Ytiopbjgpaidemaa
open Go.RowKit Go.Shelf

attribute [local go_sem] Oper.semAt_some

def mayR (r : RlD) : Bool := nameB r.n && decide (r.ds.length ≠ 0) && r.ds.all (fun d => d.l.all nameB)
def mayG (rs : List RlD) : Bool := rs.all mayR && decide (0 < rs.length)
def chkG (rs : List RlD) : Int := if mayG rs then if longG rs then 2 else 0 else 1

set_option maxRecDepth 100000 in
set_option maxHeartbeats 1000000 in
theorem areNames_any (l : List ByteArray) (a : Option Addr) (cap : Nat) (w : World) (hl : Nms w a cap l) :
    Calls Try.prog 140 #[.slice a l.length cap] w fun r w' => r = .returned (.bool (l.all nameB)) ∧ w' = w := by
  have hlm : l.length ≤ cap ∧ cap ≤ 9223372036854775807 := ⟨by have := hl.le; rw [List.length_map] at this; exact this, hl.max⟩
  obtain ⟨L, HL⟩ : ∃ L, Hid (l.length = L) := ⟨_, Lib.hid rfl⟩
  rw [HL.out] at hlm ⊢
  obtain ⟨R, hR⟩ : ∃ R, Hid (l.all nameB = R) := ⟨_, Lib.hid rfl⟩
  rw [hR.out]
  go_enter Try.func140, Try.ntmps140
  go_wp2_with (fail)
  go_loopw [7] (fun iv wr => ∃ k : Nat, k ≤ L ∧ iv = .int .i64 (k : Int) ∧ R = (l.drop k).all nameB ∧ wr = w) (fun iv _ => L - (intOf iv).toNat)
  case atStart => exact ⟨0, Nat.zero_le _, rfl, hR.out.symm, rfl⟩
  case round =>
    obtain ⟨k, hk, rfl, hr, hbr⟩ := hrel
    subst hbr
    have HR := Lib.hid hr
    clear hr
    by_cases hlt : k < L
    · have hkI : (k : Int) < (L : Int) := by omega
      have hkI0 : (0 : Int) ≤ (k : Int) := by omega
      have hkl : k < l.length := by rw [HL.out]; exact hlt
      obtain ⟨b, off, rfl⟩ := hl.at_ k (by rw [List.length_map]; exact hkl)
      have c0 := hl.cell b off rfl k (by rw [List.length_map]; exact hkl)
      rw [List.getElem_map] at c0
      have hdr : Hid (l.drop k = l[k] :: l.drop (k + 1)) := Lib.hid (List.drop_eq_getElem_cons hkl)
      obtain ⟨e, he⟩ : ∃ v, Hid (l[k] = v) := ⟨_, Lib.hid rfl⟩
      rw [he.out] at c0
      have hbl := World.block_lt_of_cell? _ _ c0
      have hc := isName_any e wr
      obtain ⟨S, hS⟩ : ∃ S, Hid (nameB e = S) := ⟨_, Lib.hid rfl⟩
      rw [hS.out] at hc
      have Hc := Lib.hid hc
      clear hc
      go_wp2_with (fail)
      refine Hc.out.mono ?_
      rintro r w3 ⟨rfl, hw3⟩
      subst w3
      cases S
      · have hF : Hid (R = false) := Lib.hid (by rw [HR.out, hdr.out, List.all_cons, he.out, hS.out, Bool.false_and])
        go_wp2_with (fail)
        exact bodyPost_ret (v := .bool false) (by simp [results, Try.results140, go_sem]; try first | rfl | assumption | omega) rfl ⟨by rw [hF.out], rfl⟩
      · go_wp2_with (fail)
        exact ⟨⟨k + 1, by omega, by simp, by rw [HR.out, hdr.out, List.all_cons, he.out, hS.out, Bool.true_and], by first | rfl | trivial⟩, by simp [intOf]; omega⟩
    · obtain rfl : k = L := by omega
      have hkI : ¬ (k : Int) < (k : Int) := by omega
      have hT : Hid (R = true) := Lib.hid (by rw [HR.out, List.drop_eq_nil_of_le (by rw [HL.out]; exact Nat.le_refl _)]; rfl)
      go_wp2_with (fail)
      exact bodyPost_ret (v := .bool true) (by simp [results, Try.results140, go_sem]; try first | rfl | assumption | omega) rfl ⟨by rw [hT.out], rfl⟩

set_option maxRecDepth 100000 in
set_option maxHeartbeats 2000000 in
theorem mayBe_any (rs : List RlD) (a : Option Addr) (cap : Nat) (w : World) (hl : Rls w a cap rs) :
    Calls Try.prog 117 #[.agg #[.slice a rs.length cap]] w fun r w' => r = .returned (.bool (mayG rs)) ∧ Below w.heap.size w w' := by
  have hlm : rs.length ≤ cap ∧ cap ≤ 9223372036854775807 := ⟨hl.le, hl.max⟩
  have hA0 := Blk.new w 24 #[.slice a rs.length cap]
  have hb0 : Below w.heap.size w (w.alloc (.cells #[.slice a rs.length cap] 24)) := (Below.refl _ w).alloc (Nat.le_refl _) _
  have hs0 : w.heap.size < (w.alloc (.cells #[.slice a rs.length cap] 24)).heap.size := by simp [go_sem]
  unfold mayG
  obtain ⟨L, HL⟩ : ∃ L, Hid (rs.length = L) := ⟨_, Lib.hid rfl⟩
  rw [HL.out] at hlm hA0 hb0 hs0 ⊢
  obtain ⟨R, hR⟩ : ∃ R, Hid (rs.all mayR = R) := ⟨_, Lib.hid rfl⟩
  rw [hR.out]
  obtain ⟨G, hG⟩ : ∃ G, Hid ((R && decide (0 < L)) = G) := ⟨_, Lib.hid rfl⟩
  rw [hG.out]
  have x0 := hA0.cell 0
  have xl := hA0.lt
  simp only [List.getElem?_cons_zero] at x0
  go_enter Try.func117, Try.ntmps117
  go_wp2_with (fail)
  generalize hW : World.alloc w _ = W at x0 xl hA0 hb0 hs0 ⊢
  have HW := Lib.hid hW
  clear hW hA0
  go_loopw [10] (fun iv wr => ∃ k : Nat, k ≤ L ∧ iv = .int .i64 (k : Int) ∧ Hid (R = (rs.drop k).all mayR) ∧ Below W.heap.size W wr) (fun iv _ => L - (intOf iv).toNat)
  case atStart => exact ⟨0, Nat.zero_le _, rfl, Lib.hid hR.out.symm, Below.refl _ _⟩
  case round =>
    obtain ⟨k, hk, rfl, HR, hbr⟩ := hrel
    have hbw := hb0.trans (hbr.mono hb0.size)
    by_cases hlt : k < L
    · have hkI : (k : Int) < (L : Int) := by omega
      have hkI0 : (0 : Int) ≤ (k : Int) := by omega
      have hkl : k < rs.length := by rw [HL.out]; exact hlt
      obtain ⟨b, off, rfl⟩ := hl.at_ k hkl
      obtain ⟨c0, c1⟩ := (hl.grown hbw).cell b off rfl k hkl
      have hdr : Hid (rs.drop k = rs[k] :: rs.drop (k + 1)) := Lib.hid (List.drop_eq_getElem_cons hkl)
      have hm : rs[k] ∈ rs := List.getElem_mem hkl
      obtain ⟨e, he⟩ : ∃ v, Hid (rs[k] = v) := ⟨_, Lib.hid rfl⟩
      rw [he.out] at c0 c1 hm
      have hbl := World.block_lt_of_cell? wr _ c0
      have hal := Lib.hid (hl.alts e hm)
      have hB0 := Blk.new wr 34 #[.string e.n, .slice e.a e.ds.length e.c]
      have hb1 : Below wr.heap.size wr (wr.alloc (.cells #[.string e.n, .slice e.a e.ds.length e.c] 34)) := (Below.refl _ wr).alloc (Nat.le_refl _) _
      have hem : e.ds.length ≤ e.c ∧ e.c ≤ 9223372036854775807 := ⟨by have := hal.out.row.le; rw [List.length_map] at this; exact this, hal.out.row.max⟩
      obtain ⟨M, HM⟩ : ∃ M, Hid (e.ds.length = M) := ⟨_, Lib.hid rfl⟩
      rw [HM.out] at hB0 hb1 c1 hem
      have y0 := hB0.cell 0
      have y1 := hB0.cell 1
      have yl := hB0.lt
      simp only [List.getElem?_cons_zero, List.getElem?_cons_succ] at y0 y1
      have HRs : Hid (R = (mayR e && (rs.drop (k + 1)).all mayR)) := Lib.hid (by rw [HR.out, hdr.out, List.all_cons, he.out])
      have HmR : Hid (mayR e = (nameB e.n && decide (M ≠ 0) && e.ds.all (fun d => d.l.all nameB))) := Lib.hid (by unfold mayR; rw [HM.out])
      clear hm hB0
      have Hc := Lib.hid (isName_any e.n (wr.alloc (.cells #[.string e.n, .slice e.a M e.c] 34)))
      obtain ⟨S, hS⟩ : ∃ S, Hid (nameB e.n = S) := ⟨_, Lib.hid rfl⟩
      rw [hS.out] at Hc HmR
      cases S
      · have hF : Hid (R = false) := Lib.hid (by rw [HRs.out, HmR.out]; rfl)
        go_wp2_with (fail)
        refine Hc.out.mono ?_
        rintro r w3 ⟨rfl, hw3⟩
        subst w3
        go_wp2_with (fail)
        exact bodyPost_ret (v := .bool false) (by simp [results, Try.results117, go_sem]; try first | rfl | assumption | omega) rfl ⟨by rw [← hG.out, hF.out]; rfl, hbw.trans (hb1.mono hbw.size)⟩
      · by_cases hM : M = 0
        · have hF : Hid (R = false) := Lib.hid (by rw [HRs.out, HmR.out, hM]; rfl)
          have hMI : (M : Int) = 0 := by omega
          clear hM
          go_wp2_with (fail)
          refine Hc.out.mono ?_
          rintro r w3 ⟨rfl, hw3⟩
          subst w3
          go_wp2_with (fail)
          exact bodyPost_ret (v := .bool false) (by simp [results, Try.results117, go_sem]; try first | rfl | assumption | omega) rfl ⟨by rw [← hG.out, hF.out]; rfl, hbw.trans (hb1.mono hbw.size)⟩
        · have hMI : ¬ (M : Int) = 0 := by omega
          obtain ⟨Q, hQ⟩ : ∃ Q, Hid (e.ds.all (fun d => d.l.all nameB) = Q) := ⟨_, Lib.hid rfl⟩
          have HRq : Hid (R = (Q && (rs.drop (k + 1)).all mayR)) := Lib.hid (by rw [HRs.out, HmR.out, hQ.out, decide_eq_true hM]; rfl)
          go_wp2_with (fail)
          refine Hc.out.mono ?_
          rintro r w3 ⟨rfl, hw3⟩
          subst w3
          go_wp2_with (fail)
          generalize hV : World.alloc wr _ = V at y0 y1 yl hb1 ⊢
          clear hV Hc
          have hMB : ((M : Int) == 0) = false := by simpa using hMI
          simp only [hMB]
          clear hMB
          go_loopw [27] (fun iv wr => ∃ j : Nat, j ≤ M ∧ iv = .int .i64 (j : Int) ∧ Hid (Q = (e.ds.drop j).all (fun d => d.l.all nameB)) ∧ wr = V) (fun iv _ => M - (intOf iv).toNat)
          case atStart => exact ⟨0, Nat.zero_le _, rfl, Lib.hid hQ.out.symm, rfl⟩
          case round =>
            obtain ⟨j, hj, rfl, HQ, hwx⟩ := hrel
            have HWX := Lib.hid hwx
            clear hwx
            have hbV : Below w.heap.size w wr := by rw [HWX.out]; exact hbw.trans (hb1.mono hbw.size)
            by_cases hjt : j < M
            · have hjI : (j : Int) < (M : Int) := by omega
              have hjI0 : (0 : Int) ≤ (j : Int) := by omega
              have hjl : j < e.ds.length := by rw [HM.out]; exact hjt
              obtain ⟨eb, eo, hea⟩ := hal.out.row.at_ j (by rw [List.length_map]; exact hjl)
              have c2 := (hal.out.grown hbV).row.cell eb eo hea j (by rw [List.length_map]; exact hjl)
              rw [List.getElem_map] at c2
              have hd2 : Hid (e.ds.drop j = e.ds[j] :: e.ds.drop (j + 1)) := Lib.hid (List.drop_eq_getElem_cons hjl)
              have hm2 : e.ds[j] ∈ e.ds := List.getElem_mem hjl
              obtain ⟨d, hd⟩ : ∃ v, Hid (e.ds[j] = v) := ⟨_, Lib.hid rfl⟩
              rw [hd.out] at c2 hm2
              have hbl2 := World.block_lt_of_cell? _ _ c2
              have hc2 := areNames_any d.l d.a d.c wr ((hal.out.nms d hm2).grown hbV)
              obtain ⟨S2, hS2⟩ : ∃ S, Hid (d.l.all nameB = S) := ⟨_, Lib.hid rfl⟩
              rw [hS2.out] at hc2
              have Hc2 := Lib.hid hc2
              clear hc2 hm2
              rw [hea]
              go_wp2_with (fail)
              refine Hc2.out.mono ?_
              rintro r w3 ⟨rfl, hw3⟩
              obtain rfl : wr = w3 := hw3.symm
              cases S2
              · have hF : Hid (R = false) := Lib.hid (by rw [HRq.out, HQ.out, hd2.out, List.all_cons, hd.out, hS2.out]; rfl)
                go_wp2_with (fail)
                exact bodyPost_ret (v := .bool false) (by simp [results, Try.results117, go_sem]; try first | rfl | assumption | omega) rfl ⟨by rw [← hG.out, hF.out]; rfl, hbV⟩
              · go_wp2_with (fail)
                exact ⟨⟨j + 1, by omega, by simp, Lib.hid (by rw [HQ.out, hd2.out, List.all_cons, hd.out, hS2.out, Bool.true_and]), HWX.out⟩, by simp [intOf]; omega⟩
            · obtain rfl : j = M := by omega
              have hjI : ¬ (j : Int) < (j : Int) := by omega
              have hT : Hid (R = (rs.drop (k + 1)).all mayR) := Lib.hid (by rw [HRq.out, HQ.out, List.drop_eq_nil_of_le (by rw [HM.out]; exact Nat.le_refl _)]; rfl)
              go_wp2_with (fail)
              exact ⟨⟨k + 1, by omega, by simp, hT, by rw [HWX.out]; exact hbr.trans (hb1.mono hbr.size)⟩, by simp [intOf]; omega⟩
    · obtain rfl : k = L := by omega
      have hkI : ¬ (k : Int) < (k : Int) := by omega
      have hT : Hid (R = true) := Lib.hid (by rw [HR.out, List.drop_eq_nil_of_le (by rw [HL.out]; exact Nat.le_refl _)]; rfl)
      have x1 := cell_up hbr x0
      by_cases h0 : 0 < k
      · have h0I : (0 : Int) < (k : Int) := by omega
        have hF : Hid (G = true) := Lib.hid (by rw [← hG.out, hT.out, decide_eq_true h0]; rfl)
        go_wp2_with (fail)
        exact bodyPost_ret (v := .bool true) (by simp [results, Try.results117, go_sem]; try first | rfl | assumption | omega) rfl ⟨by rw [hF.out], hbw⟩
      · have h0I : ¬ (0 : Int) < (k : Int) := by omega
        have hF : Hid (G = false) := Lib.hid (by rw [← hG.out, decide_eq_false h0]; exact Bool.and_false _)
        go_wp2_with (fail)
        exact bodyPost_ret (v := .bool false) (by simp [results, Try.results117, go_sem]; try first | rfl | assumption | omega) rfl ⟨by rw [hF.out], hbw⟩

set_option maxRecDepth 100000 in
set_option maxHeartbeats 1000000 in
theorem gcheck_any (rs : List RlD) (a : Option Addr) (cap : Nat) (w : World) (hl : Rls w a cap rs) :
    Calls Try.prog 88 #[.agg #[.slice a rs.length cap]] w fun r w' => r = .returned (.int .i64 (chkG rs)) ∧ Below w.heap.size w w' := by
  have hA0 := Blk.new w 24 #[.slice a rs.length cap]
  have hb0 : Below w.heap.size w (w.alloc (.cells #[.slice a rs.length cap] 24)) := (Below.refl _ w).alloc (Nat.le_refl _) _
  have Hc1 := Lib.hid (mayBe_any rs a cap _ (hl.grown hb0))
  have Hc2 := Lib.hid (fun (w2 : World) (h : Below w.heap.size w w2) => longG_any rs a cap w2 (hl.grown h))
  unfold chkG
  obtain ⟨M, hM⟩ : ∃ M, Hid (mayG rs = M) := ⟨_, Lib.hid rfl⟩
  obtain ⟨G, hG⟩ : ∃ G, Hid (longG rs = G) := ⟨_, Lib.hid rfl⟩
  rw [hM.out] at Hc1 ⊢
  rw [hG.out] at Hc2 ⊢
  obtain ⟨L, HL⟩ : ∃ L, Hid (rs.length = L) := ⟨_, Lib.hid rfl⟩
  rw [HL.out] at hA0 hb0 Hc1 Hc2 ⊢
  have x0 := hA0.cell 0
  have xl := hA0.lt
  simp only [List.getElem?_cons_zero] at x0
  cases M
  · go_enter Try.func88, Try.ntmps88
    go_wp2_with (fail)
    refine Hc1.out.mono ?_
    rintro r w1 ⟨rfl, hb1⟩
    go_wp2_with (fail)
    exact bodyPost_ret (v := .int .i64 1) (by simp [results, Try.results88, go_sem]; try first | rfl | assumption | omega) rfl ⟨rfl, hb0.trans (hb1.mono hb0.size)⟩
  · have HG : Hid ((if G = true then (2 : Int) else 0) = if G then 2 else 0) := Lib.hid rfl
    go_enter Try.func88, Try.ntmps88
    go_wp2_with (fail)
    refine Hc1.out.mono ?_
    rintro r w1 ⟨rfl, hb1⟩
    have x1 := cell_up hb1 x0
    have hb2 := hb0.trans (hb1.mono hb0.size)
    have Hd := Lib.hid (Hc2.out w1 hb2)
    go_wp2_with (fail)
    refine Hd.out.mono ?_
    rintro r w3 ⟨rfl, hb3⟩
    have hb4 := hb2.trans (hb3.mono hb2.size)
    cases G
    · go_wp2_with (fail)
      exact bodyPost_ret (v := .int .i64 0) (by simp [results, Try.results88, go_sem]; try first | rfl | assumption | omega) rfl ⟨rfl, hb4⟩
    · go_wp2_with (fail)
      exact bodyPost_ret (v := .int .i64 2) (by simp [results, Try.results88, go_sem]; try first | rfl | assumption | omega) rfl ⟨rfl, hb4⟩
end Go.Proofs.Ytiopbjgpaidemaa

namespace Go.Proofs.Ytiopbjgpaidemaa
end Go.Proofs.Ytiopbjgpaidemaa

namespace Go.Proofs.Ytiopbjgpaidemaa
open Go.RowKit Go.Shelf

attribute [local go_sem] Oper.semAt_some

theorem str_ne {s t : ByteArray} (h : ¬ s = t) : (s.toList == t.toList) = false := by
  rw [beq_eq_false_iff_ne]
  intro e
  rw [toList_is, toList_is] at e
  exact h (by cases s; cases t; rename_i x y; simp at e; rw [e])

set_option maxRecDepth 100000 in
set_option maxHeartbeats 1000000 in
theorem sameNames_any (a b : Option Addr) (ac bc : Nat) (l m : List ByteArray) (w : World) (hl : Nms w a ac l) (hm : Nms w b bc m) :
    Calls Try.prog 94 #[.slice a l.length ac, .slice b m.length bc] w fun e w' => e = .returned (.bool (decide (l = m))) ∧ Below w.heap.size w w' := by
  have hle : l.length ≤ ac := by have := hl.le; rwa [List.length_map] at this
  have hmx := hl.max
  have hle2 : m.length ≤ bc := by have := hm.le; rwa [List.length_map] at this
  have hmx2 := hm.max
  obtain ⟨L, HL⟩ : ∃ L, Hid (l.length = L) := ⟨_, Lib.hid rfl⟩
  obtain ⟨M, HM⟩ : ∃ L, Hid (m.length = L) := ⟨_, Lib.hid rfl⟩
  rw [HL.out] at hle ⊢
  rw [HM.out] at hle2 ⊢
  by_cases hLM : L = M
  · subst hLM
    go_enter Try.func94, Try.ntmps94
    go_wp2_with (fail)
    go_loopw [5, 13] (fun _ i wr => ∃ (k : Nat), k ≤ L ∧ i = .int .i64 (k : Int) ∧ l.take k = m.take k ∧ Below w.heap.size w wr) (fun _ i _ => L - (intOf i).toNat)
    case atStart => exact ⟨0, by omega, rfl, rfl, Below.refl _ w⟩
    case round =>
      obtain ⟨k, hk, rfl, hr, hbr⟩ := hrel
      have HR := Lib.hid hr
      clear hr
      by_cases hlt : k < L
      · have hkl : k < l.length := by rw [HL.out]; exact hlt
        have hkm : k < m.length := by rw [HM.out]; exact hlt
        have hkI : (k : Int) < (L : Int) := by omega
        have hkI0 : (0 : Int) ≤ (k : Int) := by omega
        obtain ⟨b1, o1, rfl⟩ := hl.at_ k (by rw [List.length_map]; exact hkl)
        obtain ⟨b2, o2, rfl⟩ := hm.at_ k (by rw [List.length_map]; exact hkm)
        have c0 := (hl.grown hbr).cell b1 o1 rfl k (by rw [List.length_map]; exact hkl)
        have d0 := (hm.grown hbr).cell b2 o2 rfl k (by rw [List.length_map]; exact hkm)
        rw [List.getElem_map] at c0 d0
        obtain ⟨s, HS⟩ : ∃ s, Hid (l[k] = s) := ⟨_, Lib.hid rfl⟩
        obtain ⟨t, HT⟩ : ∃ s, Hid (m[k] = s) := ⟨_, Lib.hid rfl⟩
        rw [HS.out] at c0
        rw [HT.out] at d0
        have hmore : Hid (l.take (k + 1) = l.take k ++ [s] ∧ m.take (k + 1) = m.take k ++ [t]) := Lib.hid ⟨by rw [List.take_add_one, List.getElem?_eq_getElem hkl, HS.out]; rfl, by rw [List.take_add_one, List.getElem?_eq_getElem hkm, HT.out]; rfl⟩
        have hne : Hid (s ≠ t → decide (l = m) = false) := Lib.hid (fun h => decide_eq_false (fun e => h (by rw [← HS.out, ← HT.out]; subst e; rfl)))
        have hbd : Below w.heap.size w wr := hbr
        have hbl := World.block_lt_of_cell? _ _ c0
        have hbl2 := World.block_lt_of_cell? _ _ d0
        by_cases e1 : s = t
        · subst e1
          clear hl hm
          go_wp2_with (fail)
          go_region
          all_goals
            go_wp2_with (fail)
            go_roundw
          case rel => exact ⟨k + 1, by omega, by go_num, by rw [hmore.out.1, hmore.out.2, HR.out], hbd.drew⟩
          case measure => simp [intOf]; omega
        · have e3 : (s.toList == t.toList) = false := str_ne e1
          have hF := Lib.hid (hne.out e1)
          clear hl hm
          go_wp2_with (fail)
          go_region
          go_wp2_with (fail)
          exact bodyPost_ret (v := .bool false) (by simp [results, Try.results94, go_sem]; try rfl) rfl ⟨by rw [hF.out], hbd.drew⟩
      · obtain rfl : k = L := by omega
        have hT : Hid (decide (l = m) = true) := Lib.hid (decide_eq_true (by have := HR.out; rwa [List.take_of_length_le (by rw [HL.out]; exact Nat.le_refl _), List.take_of_length_le (by rw [HM.out]; exact Nat.le_refl _)] at this))
        go_wp2_with (fail)
        exact bodyPost_ret (v := .bool true) (by simp [results, Try.results94, go_sem]; try rfl) rfl ⟨by rw [hT.out], hbr⟩
  · have hF : Hid (decide (l = m) = false) := Lib.hid (decide_eq_false (fun e => hLM (by rw [← HL.out, ← HM.out, e])))
    have hne : ((L : Int) == (M : Int)) = false := by rw [beq_eq_false_iff_ne]; omega
    go_enter Try.func94, Try.ntmps94
    go_wp2_with (fail)
    all_goals first
      | exact bodyPost_ret (v := .bool false) (by simp [results, Try.results94, go_sem]; try rfl) rfl ⟨by rw [hF.out], Below.refl _ w⟩
      | (exfalso; omega)

end Go.Proofs.Ytiopbjgpaidemaa

namespace Go.Proofs.Ytiopbjgpaidemaa
open Go.RowKit Go.Shelf

attribute [local go_sem] Oper.semAt_some

theorem altv (d : AltD) : d.v = .slice d.a d.l.length d.c := rfl
end Go.Proofs.Ytiopbjgpaidemaa

namespace Go.Proofs.Ytiopbjgpaidemaa
open Go.RowKit Go.Shelf

attribute [local go_sem] Oper.semAt_some

end Go.Proofs.Ytiopbjgpaidemaa

namespace Go.Proofs.Ytiopbjgpaidemaa
open Go.RowKit Go.Shelf

attribute [local go_sem] Oper.semAt_some

end Go.Proofs.Ytiopbjgpaidemaa

namespace Go.Proofs.Ytiopbjgpaidemaa
end Go.Proofs.Ytiopbjgpaidemaa

namespace Go.Proofs.Ytiopbjgpaidemaa
open Go.RowKit Go.Shelf

attribute [local go_sem] Oper.semAt_some

end Go.Proofs.Ytiopbjgpaidemaa

namespace Go.Proofs.Ytiopbjgpaidemaa
open Go.RowKit Go.Shelf

attribute [local go_sem] Oper.semAt_some

end Go.Proofs.Ytiopbjgpaidemaa

namespace Go.Proofs.Ytiopbjgpaidemaa
open Go.RowKit Go.Shelf

attribute [local go_sem] Oper.semAt_some

end Go.Proofs.Ytiopbjgpaidemaa

namespace Go.Proofs.Ytiopbjgpaidemaa
open Go.RowKit

attribute [local go_sem] Oper.semAt_some

/-- Whether a name is among some. -/
def mem (s : ByteArray) (l : List ByteArray) : Bool := l.any (fun t => decide (t = s))
theorem mem_iff {s : ByteArray} {l : List ByteArray} : mem s l = true ↔ s ∈ l := by
  simp [mem]
end Go.Proofs.Ytiopbjgpaidemaa

namespace Go.Proofs.Ytiopbjgpaidemaa
open Go.RowKit

attribute [local go_sem] Oper.semAt_some

/-- A flaw: its kind, its name. -/
abbrev Fl := Int × ByteArray
def flC (f : Fl) : List Value := [.int .i64 f.1, .string f.2]
/-- Flaws, each of two cells. -/
structure Fls (w : World) (a : Option Addr) (cap : Nat) (l : List Fl) : Prop where
  le : l.length ≤ cap
  max : cap ≤ 9223372036854775807
  at_ : ∀ i, i < l.length → ∃ b off, a = some ⟨b, off, none⟩
  cell : ∀ b off, a = some ⟨b, off, none⟩ → ∀ i, (h : i < l.length) → w.cell? ⟨b, off + i * 2, none⟩ = some (.int .i64 l[i].1) ∧ w.cell? ⟨b, off + i * 2 + 1, none⟩ = some (.string l[i].2)
theorem Fls.grown {w w' : World} {a : Option Addr} {cap : Nat} {l : List Fl} (h : Fls w a cap l) (hb : Below w.heap.size w w') : Fls w' a cap l :=
  ⟨h.le, h.max, h.at_, fun b off e i hi => ⟨cell_up hb (h.cell b off e i hi).1, cell_up hb (h.cell b off e i hi).2⟩⟩
/-- An own row of flaws. -/
abbrev OwnF (w : World) (base : Nat) (a : Option Addr) (cap : Nat) (l : List Fl) : Prop := w.ownsRow base 31 2 (.slice a l.length cap) l.length (l.flatMap flC)
theorem flC_at (l : List Fl) (i : Nat) (h : i < l.length) : (l.flatMap flC)[i * 2]? = some (.int .i64 l[i].1) ∧ (l.flatMap flC)[i * 2 + 1]? = some (.string l[i].2) := by
  induction l generalizing i with
  | nil => simp at h
  | cons f r ih =>
    rw [List.flatMap_cons]
    cases i with
    | zero => exact ⟨rfl, rfl⟩
    | succ j =>
      have hj : j < r.length := by simpa using h
      have := ih j hj
      rw [show (j + 1) * 2 = 2 + j * 2 by omega, show 2 + j * 2 + 1 = 2 + (j * 2 + 1) by omega]
      rw [List.getElem?_append_right (by simp [flC]), List.getElem?_append_right (by simp [flC])]
      simpa [flC] using this
theorem own_fls {w : World} {base cap : Nat} {a : Option Addr} {l : List Fl} (h : OwnF w base a cap l) : Fls w a cap l := by
  rcases h.2 with ⟨e1, e2⟩ | ⟨g, cap', cur, e1, hb, hg, hle, hm, hs, ht⟩
  · have : l = [] := List.length_eq_zero_iff.1 e2
    subst this
    exact ⟨by simp, by simp only [Value.slice.injEq] at e1; omega, fun i h => by simp at h, fun b off e i hi => by simp at hi⟩
  · simp only [Value.slice.injEq] at e1
    obtain ⟨rfl, -, rfl⟩ := e1
    refine ⟨hle, by unfold maxLen at hm; omega, fun i _ => ⟨g, 0, rfl⟩, ?_⟩
    intro b off e i hi
    cases e
    have h1 := h.cellAt (i * 2) (by omega)
    have h2 := h.cellAt (i * 2 + 1) (by omega)
    have := flC_at l i hi
    exact ⟨by rw [Nat.zero_add, h1]; exact this.1, by rw [Nat.zero_add, h2]; exact this.2⟩
theorem below_at {B : Nat} {a b : World} {r : Option Nat} (h : a.grownBy b r) (hr : ∀ i, r = some i → B ≤ i) (hB : B ≤ a.heap.size) : Below B a b :=
  ⟨h.os, h.tape, h.output, h.size, fun k hk => h.block k (Nat.lt_of_lt_of_le hk hB) (fun e => by have := hr k e.symm; omega)⟩
theorem info_flaw : (Try.prog.info? 31).map (fun i => (i.zero, i.size, i.bytes)) = some (some (.agg #[.int .i64 0, .string ⟨#[]⟩]), 2, 24) := by kernel_rfl

set_option maxRecDepth 100000 in
set_option maxHeartbeats 2000000 in
theorem names_any (rs : List RlD) (a : Option Addr) (cap : Nat) (w : World) (hl : Rls w a cap rs) (hfew : rs.length ≤ 1000000) :
    Calls Try.prog 17 #[.agg #[.slice a rs.length cap]] w fun r w' => ∃ a' c', r = .returned (.slice a' rs.length c') ∧ w'.ownsRow w.heap.size 9 1 (.slice a' rs.length c') rs.length ((rs.map RlD.n).map Value.string) ∧ Below w.heap.size w w' := by
  have hlm : rs.length ≤ cap ∧ cap ≤ 9223372036854775807 := ⟨hl.le, hl.max⟩
  have hA0 := Blk.new w 24 #[.slice a rs.length cap]
  have hb0 : Below w.heap.size w (w.alloc (.cells #[.slice a rs.length cap] 24)) := (Below.refl _ w).alloc (Nat.le_refl _) _
  have hs0 : w.heap.size < (w.alloc (.cells #[.slice a rs.length cap] 24)).heap.size := by simp [go_sem]
  obtain ⟨L, HL⟩ : ∃ L, Hid (rs.length = L) := ⟨_, Lib.hid rfl⟩
  rw [HL.out] at hlm hfew hA0 hb0 hs0 ⊢
  have x0 := hA0.cell 0
  have xl := hA0.lt
  simp only [List.getElem?_cons_zero] at x0
  go_enter Try.func17, Try.ntmps17
  go_wp2_with (fail)
  generalize hW : World.alloc w _ = W at x0 xl hA0 hb0 hs0 ⊢
  have HW := Lib.hid hW
  clear hW hA0
  go_loopw [3, 9] (fun s iv wr => ∃ (k : Nat) (a' : Option Addr) (c' : Nat), k ≤ L ∧ iv = .int .i64 (k : Int) ∧ s = .slice a' k c' ∧ wr.ownsRow w.heap.size 9 1 (.slice a' k c') k (((rs.take k).map RlD.n).map Value.string) ∧ Below w.heap.size w wr) (fun _ iv _ => L - (intOf iv).toNat)
  case atStart => exact ⟨0, none, 0, Nat.zero_le _, rfl, rfl, by simpa using World.ownsRow_nil W _ _ 1, hb0⟩
  case round =>
    obtain ⟨k, a', c', hk, rfl, rfl, hown, hbw⟩ := hrel
    by_cases hlt : k < L
    · have hkI : (k : Int) < (L : Int) := by omega
      have hkI0 : (0 : Int) ≤ (k : Int) := by omega
      have hkl : k < rs.length := by rw [HL.out]; exact hlt
      obtain ⟨b, off, rfl⟩ := hl.at_ k hkl
      obtain ⟨c0, c1⟩ := (hl.grown hbw).cell b off rfl k hkl
      obtain ⟨e, he⟩ : ∃ v, Hid (rs[k] = v) := ⟨_, Lib.hid rfl⟩
      have htk : Hid (((rs.take (k + 1)).map RlD.n).map Value.string = ((rs.take k).map RlD.n).map Value.string ++ [.string e.n]) := Lib.hid (by rw [List.take_add_one, List.getElem?_eq_getElem hkl, he.out]; simp)
      rw [he.out] at c0 c1
      have hbl := World.block_lt_of_cell? wr _ c0
      have hB0 := Blk.new wr 34 #[.string e.n, .slice e.a e.ds.length e.c]
      obtain ⟨M, HM⟩ : ∃ M, Hid (e.ds.length = M) := ⟨_, Lib.hid rfl⟩
      rw [HM.out] at hB0 c1
      have y0 := hB0.cell 0
      have yl := hB0.lt
      simp only [List.getElem?_cons_zero] at y0
      obtain ⟨a2, c2, w2, hrun, ho, hg⟩ := run_pushV (wr.alloc (.cells #[.string e.n, .slice e.a M e.c] 34)) 25 25 9 _ 1 16 Try.underlying25 info_str rfl (by decide) (by decide) [.string e.n] rfl (by simp [Value.oneCell']) (hown.alloc _) (by omega) (by have := hbw.size; simp [go_sem]; omega)
      rw [show (wr.alloc (.cells #[.string e.n, .slice e.a M e.c] 34)).heap.size = wr.heap.size + 1 by simp [go_sem]] at hrun
      have Hrun := Lib.hid hrun
      have HB := Lib.hid ((hbw.alloc hbw.size (.cells #[.string e.n, .slice e.a M e.c] 34)).trans (below_at hg (fun g e0 => (own_typ hown g e0).1) (by have := hbw.size; simp [go_sem]; omega)))
      have HO := Lib.hid ho
      clear hrun ho hg hB0 hown
      go_wp2_with (at_builtin; refine wpList_append_run rfl _ _ 25 25 rfl _ _ _ _ rfl rfl Hrun.out ?_)
      exact ⟨⟨k + 1, a2, c2, by omega, by go_num, rfl, by have := HO.out; rw [← htk.out] at this; simpa using this, HB.out⟩, by simp [intOf]; omega⟩
    · obtain rfl : k = L := by omega
      have hkI : ¬ (k : Int) < (k : Int) := by omega
      have hT : Hid (rs.take k = rs) := Lib.hid (List.take_of_length_le (by rw [HL.out]; exact Nat.le_refl _))
      have HO := Lib.hid hown
      clear hown
      go_wp2_with (fail)
      exact bodyPost_ret (v := .slice a' k c') (by simp [results, Try.results17, go_sem]; try first | rfl | assumption | omega) rfl ⟨a', c', rfl, by have := HO.out; rw [hT.out] at this; simpa using this, hbw⟩
end Go.Proofs.Ytiopbjgpaidemaa

namespace Go.Proofs.Ytiopbjgpaidemaa
open Go.RowKit

attribute [local go_sem] Oper.semAt_some

def memF (x : Fl) (l : List Fl) : Bool := l.any (fun f => decide (f = x))
theorem memF_iff {x : Fl} {l : List Fl} : memF x l = true ↔ x ∈ l := by simp [memF]
/-- A flaw is laid behind the others, if it is not there. -/
def layP (l : List Fl) (x : Fl) : List Fl := if memF x l then l else l ++ [x]

end Go.Proofs.Ytiopbjgpaidemaa

namespace Go.Proofs.Ytiopbjgpaidemaa
open Go.RowKit Go.Shelf

attribute [local go_sem] Oper.semAt_some

set_option maxRecDepth 100000 in
set_option maxHeartbeats 2000000 in
theorem sameFlaws_any (a b : Option Addr) (ac bc : Nat) (l m : List Fl) (w : World) (hl : Fls w a ac l) (hm : Fls w b bc m) :
    Calls Try.prog 18 #[.slice a l.length ac, .slice b m.length bc] w fun e w' => e = .returned (.bool (decide (l = m))) ∧ Below w.heap.size w w' := by
  have hle : l.length ≤ ac := hl.le
  have hmx := hl.max
  have hle2 : m.length ≤ bc := hm.le
  have hmx2 := hm.max
  obtain ⟨L, HL⟩ : ∃ L, Hid (l.length = L) := ⟨_, Lib.hid rfl⟩
  obtain ⟨M, HM⟩ : ∃ L, Hid (m.length = L) := ⟨_, Lib.hid rfl⟩
  rw [HL.out] at hle ⊢
  rw [HM.out] at hle2 ⊢
  by_cases hLM : L = M
  · subst hLM
    go_enter Try.func18, Try.ntmps18
    go_wp2_with (fail)
    go_loopw [5, 13] (fun _ i wr => ∃ (k : Nat), k ≤ L ∧ i = .int .i64 (k : Int) ∧ l.take k = m.take k ∧ Below w.heap.size w wr) (fun _ i _ => L - (intOf i).toNat)
    case atStart => exact ⟨0, by omega, rfl, rfl, Below.refl _ w⟩
    case round =>
      obtain ⟨k, hk, rfl, hr, hbr⟩ := hrel
      have HR := Lib.hid hr
      clear hr
      by_cases hlt : k < L
      · have hkl : k < l.length := by rw [HL.out]; exact hlt
        have hkm : k < m.length := by rw [HM.out]; exact hlt
        have hkI : (k : Int) < (L : Int) := by omega
        have hkI0 : (0 : Int) ≤ (k : Int) := by omega
        obtain ⟨b1, o1, rfl⟩ := hl.at_ k hkl
        obtain ⟨b2, o2, rfl⟩ := hm.at_ k hkm
        obtain ⟨c0, c1⟩ := (hl.grown hbr).cell b1 o1 rfl k hkl
        obtain ⟨d0, d1⟩ := (hm.grown hbr).cell b2 o2 rfl k hkm
        obtain ⟨s, HS⟩ : ∃ s, Hid (l[k] = s) := ⟨_, Lib.hid rfl⟩
        obtain ⟨t, HT⟩ : ∃ s, Hid (m[k] = s) := ⟨_, Lib.hid rfl⟩
        rw [HS.out] at c0 c1
        rw [HT.out] at d0 d1
        have hmore : Hid (l.take (k + 1) = l.take k ++ [s] ∧ m.take (k + 1) = m.take k ++ [t]) := Lib.hid ⟨by rw [List.take_add_one, List.getElem?_eq_getElem hkl, HS.out]; rfl, by rw [List.take_add_one, List.getElem?_eq_getElem hkm, HT.out]; rfl⟩
        have hne : Hid (s ≠ t → decide (l = m) = false) := Lib.hid (fun h => decide_eq_false (fun e => h (by rw [← HS.out, ← HT.out]; subst e; rfl)))
        obtain ⟨sk, sn⟩ := s
        obtain ⟨tk, tn⟩ := t
        simp only at c0 c1 d0 d1
        have hbd : Below w.heap.size w wr := hbr
        have hbl := World.block_lt_of_cell? _ _ c0
        have hbl2 := World.block_lt_of_cell? _ _ d0
        by_cases e0 : sk = tk
        · subst e0
          by_cases e1 : sn = tn
          · subst e1
            clear hl hm
            go_wp2_with (fail)
            go_region
            all_goals
              go_wp2_with (fail)
              go_roundw
            case rel => exact ⟨k + 1, by omega, by go_num, by rw [hmore.out.1, hmore.out.2, HR.out], hbd.drew⟩
            case measure => simp [intOf]; omega
          · have e3 : (sn.toList == tn.toList) = false := str_ne e1
            have hF := Lib.hid (hne.out (fun e => e1 (by cases e; rfl)))
            clear hl hm
            go_wp2_with (fail)
            go_region
            go_wp2_with (fail)
            exact bodyPost_ret (v := .bool false) (by simp [results, Try.results18, go_sem]; try rfl) rfl ⟨by rw [hF.out], hbd.drew⟩
        · have e3 : (sk == tk) = false := by rw [beq_eq_false_iff_ne]; exact e0
          have hF := Lib.hid (hne.out (fun e => e0 (by cases e; rfl)))
          clear hl hm
          go_wp2_with (fail)
          go_region
          go_wp2_with (fail)
          exact bodyPost_ret (v := .bool false) (by simp [results, Try.results18, go_sem]; try rfl) rfl ⟨by rw [hF.out], hbd.drew⟩
      · obtain rfl : k = L := by omega
        have hT : Hid (decide (l = m) = true) := Lib.hid (decide_eq_true (by have := HR.out; rwa [List.take_of_length_le (by rw [HL.out]; exact Nat.le_refl _), List.take_of_length_le (by rw [HM.out]; exact Nat.le_refl _)] at this))
        go_wp2_with (fail)
        exact bodyPost_ret (v := .bool true) (by simp [results, Try.results18, go_sem]; try rfl) rfl ⟨by rw [hT.out], hbr⟩
  · have hF : Hid (decide (l = m) = false) := Lib.hid (decide_eq_false (fun e => hLM (by rw [← HL.out, ← HM.out, e])))
    have hne : ((L : Int) == (M : Int)) = false := by rw [beq_eq_false_iff_ne]; omega
    go_enter Try.func18, Try.ntmps18
    go_wp2_with (fail)
    all_goals first
      | exact bodyPost_ret (v := .bool false) (by simp [results, Try.results18, go_sem]; try rfl) rfl ⟨by rw [hF.out], Below.refl _ w⟩
      | (exfalso; omega)
end Go.Proofs.Ytiopbjgpaidemaa

namespace Go.Proofs.Ytiopbjgpaidemaa
open Go.RowKit

/-- An own row of names. -/
abbrev OwnS (w : World) (base n : Nat) (a : Option Addr) (cap : Nat) (l : List ByteArray) : Prop := w.ownsRow base 9 1 (.slice a n cap) n (l.map Value.string)
theorem OwnS.len {w : World} {base n cap : Nat} {a : Option Addr} {l : List ByteArray} (h : OwnS w base n a cap l) : l.length = n := by
  have := h.1
  simpa using this
theorem OwnS.nms {w : World} {base n cap : Nat} {a : Option Addr} {l : List ByteArray} (h : OwnS w base n a cap l) : Nms w a cap l := own_vs h
theorem OwnS.below {w w' : World} {base n cap : Nat} {a : Option Addr} {l : List ByteArray} (h : OwnS w base n a cap l) (hb : Below w.heap.size w w') : OwnS w' base n a cap l :=
  World.ownsRow.kept h (below_grownBy hb none) (by cases e : (Value.slice a n cap).ownBlock <;> simp)
/-- A name is put onto an own row. -/
theorem OwnS.push {w : World} {base n cap : Nat} {a : Option Addr} {l : List ByteArray} (h : OwnS w base n a cap l) (nm : ByteArray) (ty : TypeId) (hn : n + 1 ≤ 1099511627780) (hb : base ≤ w.heap.size) :
    ∃ a' c' w', (Builtin.append_ #[25, 25] ty #[.slice a n cap, .slice (some ⟨w.heap.size, 0, none⟩) 1 1]).run Try.prog (w.alloc (.cells #[.string nm] 9)) = .ok (.slice a' (n + 1) c') w' ∧
      OwnS w' base (n + 1) a' c' (l ++ [nm]) ∧ Below base w w' ∧ w.grownBy w' (Value.slice a n cap).ownBlock := by
  obtain ⟨a', c', w', hrun, ho, hg⟩ := run_pushV w 25 ty 9 _ 1 16 Try.underlying25 info_str rfl (by decide) (by decide) [.string nm] rfl (by simp [Value.oneCell']) h hn hb
  exact ⟨a', c', w', hrun, by simpa [OwnS] using ho, below_at hg (fun g e0 => (own_typ h g e0).1) hb, hg⟩
/-- Names are put onto an own row. -/
theorem OwnS.app {w : World} {base n cap : Nat} {a : Option Addr} {l : List ByteArray} (h : OwnS w base n a cap l) (b : Option Addr) (bc : Nat) (m : List ByteArray) (hm : Nms w b bc m) (ty : TypeId) (hn : n + m.length ≤ 1099511627780) (hb : base ≤ w.heap.size) :
    ∃ a' c' w', (Builtin.append_ #[25, 25] ty #[.slice a n cap, .slice b m.length bc]).run Try.prog w = .ok (.slice a' (n + m.length) c') w' ∧
      OwnS w' base (n + m.length) a' c' (l ++ m) ∧ Below base w w' := by
  obtain ⟨i0, hi, hz0, hz1, hz2⟩ := info_parts info_str
  cases b with
  | none =>
    have e0 := hm.nil_ rfl
    have hml : m = [] := by
      have := hm.le
      rw [e0] at this
      simpa using this
    subst e0
    subst hml
    exact ⟨a, cap, w, run_append_owned_none (P := Try.prog) w base _ ty _ i0 1 Try.underlying25 hi _ _ _ h, by simpa [OwnS] using h, Below.refl _ w⟩
  | some b' =>
    have hnew : ∀ j u, (m.map Value.string)[j]? = some u → w.cell? (b'.add j) = some u := by
      intro j u hj
      have hjl : j < (m.map Value.string).length := (List.getElem?_eq_some_iff.1 hj).1
      obtain ⟨b2, off, e⟩ := hm.at_ j hjl
      have e := Option.some.inj e
      subst e
      have := hm.cell b2 off rfl j hjl
      rw [show (⟨b2, off, none⟩ : Addr).add j = ⟨b2, off + j, none⟩ from by unfold Addr.add; split <;> simp_all]
      exact this.trans ((List.getElem?_eq_getElem hjl).symm.trans hj)
    obtain ⟨v', w', hrun, ho, hg, _⟩ := run_append_own (P := Try.prog) w base 25 ty 9 i0 _ 1 16 Try.underlying25 hi hz0 hz1 hz2 rfl (by decide) _ n _ h b' m.length bc (m.map Value.string) (by simp) hnew (fun u hu => by
      obtain ⟨x, _, rfl⟩ := List.mem_map.1 hu
      rfl) (by unfold maxLen; omega) (by omega) hb
    obtain ⟨a', cap', rfl⟩ := slice_of_own ho
    exact ⟨a', cap', w', hrun, by simpa [OwnS] using ho, below_at hg (fun g e0 => (own_typ h g e0).1) hb⟩

/-- One alternative of a rule of this name, told by the names that are known. -/
def altStep (nm : ByteArray) (o : List ByteArray) (a : List ByteArray) : List ByteArray := if (a.all (fun n => mem n o) && !mem nm o) = true then o ++ [nm] else o
def altsP (nm : ByteArray) (al : List (List ByteArray)) (o : List ByteArray) : List ByteArray := al.foldl (altStep nm) o
def passP (rs : List Rl) (o : List ByteArray) : List ByteArray := rs.foldl (fun o r => altsP r.1 r.2 o) o
def fertN (rs : List Rl) (t : List ByteArray) : Nat → List ByteArray
  | 0 => t
  | k + 1 => passP rs (fertN rs t k)
end Go.Proofs.Ytiopbjgpaidemaa

namespace Go.Proofs.Ytiopbjgpaidemaa
open Go.RowKit Go.Shelf

attribute [local go_sem] Oper.semAt_some

end Go.Proofs.Ytiopbjgpaidemaa

namespace Go.Proofs.Ytiopbjgpaidemaa
open Go.RowKit

theorem nodup_sub {α : Type} [DecidableEq α] : ∀ (l m : List α), l.Nodup → (∀ a ∈ l, a ∈ m) → l.length ≤ m.length
  | [], _, _, _ => Nat.zero_le _
  | a :: l, m, h, hs => by
    rw [List.nodup_cons] at h
    have h1 := nodup_sub l (m.erase a) h.2 (fun b hb => (List.mem_erase_of_ne (fun (e : b = a) => h.1 (by rw [← e]; exact hb))).2 (hs b (List.mem_cons_of_mem _ hb)))
    have h2 := List.length_erase_of_mem (hs a List.mem_cons_self)
    have h3 : 0 < m.length := List.length_pos_of_mem (hs a List.mem_cons_self)
    rw [List.length_cons]
    omega
def addS (o : List ByteArray) (n : ByteArray) : List ByteArray := if mem n o = true then o else o ++ [n]
def addAll (l : List ByteArray) (o : List ByteArray) : List ByteArray := l.foldl addS o
def addAlts (al : List (List ByteArray)) (o : List ByteArray) : List ByteArray := al.foldl (fun o a => addAll a o) o
def visitS (x : ByteArray) (o : List ByteArray) (r : Rl) : List ByteArray := if r.1 = x then addAlts r.2 o else o
def visit (rs : List Rl) (x : ByteArray) (o : List ByteArray) : List ByteArray := rs.foldl (visitS x) o
/-- What the reference has found behind so many steps. -/
def ledO (rs : List Rl) (f : ByteArray) : Nat → List ByteArray
  | 0 => [f]
  | k + 1 => match (ledO rs f k)[k]? with
    | some x => visit rs x (ledO rs f k)
    | none => ledO rs f k
/-- All names that stand in alternatives. -/
def namesR (rs : List Rl) : List ByteArray := rs.flatMap (fun r => r.2.flatten)
theorem OwnS.lit (w : World) (base : Nat) (nm : ByteArray) (hb : base ≤ w.heap.size) : OwnS (w.alloc (.cells #[.string nm] 9)) base 1 (some ⟨w.heap.size, 0, none⟩) 1 [nm] := by
  have := World.ownsRow_lit (base := base) (e := 9) (size := 1) w #[.string nm] 1 hb (by unfold maxLen; omega) rfl
  exact this
end Go.Proofs.Ytiopbjgpaidemaa

namespace Go.Proofs.Ytiopbjgpaidemaa
open Go.RowKit Go.Shelf

attribute [local go_sem] Oper.semAt_some

/-- A list that begins so. -/
def Pre (o p : List ByteArray) : Prop := ∃ t, p = o ++ t
theorem Pre.refl (o : List ByteArray) : Pre o o := ⟨[], by simp⟩
theorem Pre.trans {o p q : List ByteArray} (h : Pre o p) (k : Pre p q) : Pre o q := by
  obtain ⟨t, rfl⟩ := h
  obtain ⟨u, rfl⟩ := k
  exact ⟨t ++ u, by rw [List.append_assoc]⟩
theorem Pre.at {o p : List ByteArray} (h : Pre o p) {k : Nat} (hk : k < o.length) : p[k]? = o[k]? := by
  obtain ⟨t, rfl⟩ := h
  exact List.getElem?_append_left hk
theorem pre_addS (o : List ByteArray) (n : ByteArray) : Pre o (addS o n) := by
  unfold addS
  split
  · exact Pre.refl o
  · exact ⟨[n], rfl⟩
theorem pre_addAll : ∀ (l o : List ByteArray), Pre o (addAll l o)
  | [], o => Pre.refl o
  | n :: l, o => (pre_addS o n).trans (pre_addAll l (addS o n))
theorem pre_addAlts : ∀ (l : List (List ByteArray)) (o : List ByteArray), Pre o (addAlts l o)
  | [], o => Pre.refl o
  | a :: l, o => (pre_addAll a o).trans (pre_addAlts l (addAll a o))
theorem pre_visit (x : ByteArray) : ∀ (rs : List Rl) (o : List ByteArray), Pre o (visit rs x o)
  | [], o => Pre.refl o
  | r :: rs, o => by
    refine Pre.trans ?_ (pre_visit x rs (visitS x o r))
    unfold visitS
    split
    · exact pre_addAlts r.2 o
    · exact Pre.refl o
/-- What led comes to: all that was found was looked at. -/
def LedR (rs : List RlD) (o : List ByteArray) : Prop := match rs with
  | [] => o = []
  | r :: _ => ∃ k, o = ledO (grP rs) r.n k ∧ o.length ≤ k

end Go.Proofs.Ytiopbjgpaidemaa

namespace Go.Proofs.Ytiopbjgpaidemaa
open Go.RowKit

theorem Vs.take {w : World} {a : Option Addr} {cap : Nat} {l : List Value} (h : Vs w a cap l) (k : Nat) : Vs w a cap (l.take k) :=
  ⟨by have := h.le; simp; omega, h.max, h.nil_, fun i hi => h.at_ i (by simp at hi; omega), fun b off e i hi => by
    rw [h.cell b off e i (by simp at hi; omega), List.getElem_take]⟩
theorem Nms.take {w : World} {a : Option Addr} {cap : Nat} {l : List ByteArray} (h : Nms w a cap l) (k : Nat) : Nms w a cap (l.take k) := by
  have := Vs.take h k
  rw [← List.map_take] at this
  exact this
/-- Names of rules that are a token's or a rule's ahead, among the first k. -/
def dblN (ts names : List ByteArray) : Nat → List Fl
  | 0 => []
  | k + 1 => match names[k]? with
    | some n => if (mem n ts || mem n (names.take k)) = true then layP (dblN ts names k) (1, n) else dblN ts names k
    | none => dblN ts names k
def unkS (ts names : List ByteArray) (o : List Fl) (n : ByteArray) : List Fl := if (!mem n names && !mem n ts) = true then layP o (2, n) else o
def unkA (ts names : List ByteArray) (l : List ByteArray) (o : List Fl) : List Fl := l.foldl (unkS ts names) o
def unkAs (ts names : List ByteArray) (al : List (List ByteArray)) (o : List Fl) : List Fl := al.foldl (fun o a => unkA ts names a o) o
def unkP (ts names : List ByteArray) (rs : List Rl) (o : List Fl) : List Fl := rs.foldl (fun o r => unkAs ts names r.2 o) o
def restS (kd : Int) (good : List ByteArray) (o : List Fl) (n : ByteArray) : List Fl := if (!mem n good) = true then layP o (kd, n) else o
def restP (kd : Int) (good : List ByteArray) (names : List ByteArray) (o : List Fl) : List Fl := names.foldl (restS kd good) o
theorem unkA_snoc (ts names l : List ByteArray) (n : ByteArray) (o : List Fl) : unkA ts names (l ++ [n]) o = unkS ts names (unkA ts names l o) n := by simp [unkA, List.foldl_append]
theorem unkP_snoc (ts names : List ByteArray) (rs : List Rl) (r : Rl) (o : List Fl) : unkP ts names (rs ++ [r]) o = unkAs ts names r.2 (unkP ts names rs o) := by simp [unkP, List.foldl_append]
/-- All flaws of a grammar: which names are fertile, and to which the first rule leads, is given. -/
def flawsP (rs : List Rl) (ts good near : List ByteArray) : List Fl :=
  restP 4 near (rs.map Prod.fst) (restP 3 good (rs.map Prod.fst) (unkP ts (rs.map Prod.fst) rs (dblN ts (rs.map Prod.fst) (rs.map Prod.fst).length)))
end Go.Proofs.Ytiopbjgpaidemaa

namespace Go.Proofs.Ytiopbjgpaidemaa
open Go.RowKit Go.Shelf

attribute [local go_sem] Oper.semAt_some

end Go.Proofs.Ytiopbjgpaidemaa

namespace Go.Proofs.Ytiopbjgpaidemaa
open Go.RowKit Go.Shelf

attribute [local go_sem] Oper.semAt_some

set_option maxRecDepth 100000 in
set_option maxHeartbeats 2000000 in
theorem grow_any (k : Nat) (w : World) (hk : k ≤ 1000000) :
    Calls Try.prog 124 #[.slice none 0 0, .int .i64 (k : Int)] w fun e w' => ∃ a' c', e = .returned (.slice a' 0 c') ∧ OwnS w' w.heap.size 0 a' c' [] ∧ Below w.heap.size w w' := by
  by_cases h0 : k = 0
  · subst h0
    go_enter Try.func124, Try.ntmps124
    go_wp2_with (fail)
    exact bodyPost_ret (v := .slice none 0 0) (by simp [results, Try.results124, go_sem]; try first | rfl | assumption | omega) rfl ⟨none, 0, rfl, World.ownsRow_nil _ _ _ 1, Below.refl _ w⟩
  · obtain ⟨i0, hi, hz0, hz1, hz2⟩ := info_parts info_str
    have hk1 : (0 : Int) < (k : Int) := by omega
    have hk2 : ¬ (k : Int) < 0 := by omega
    have hrun := Lib.run_append_nil_zeros (P := Try.prog) w 25 3 25 9 i0 _ .i64 .i64 Try.underlying25 Try.underlying3 hi hz0 k (by omega) (by rw [hz1]; decide) (by omega) (by rw [hz2]; omega)
    have hge := grownCap_ge w k 0 9
    have hle := grownCap_le_maxLen w k 0 9 (by unfold maxLen; omega)
    obtain ⟨cc, hcc⟩ : ∃ c, Hid (grownCap w k 0 9 = c) := ⟨_, Lib.hid rfl⟩
    rw [hcc.out] at hrun hge hle
    have hsz : (Builtin.zeroCells (Value.string ⟨#[]⟩).cells k ++ Builtin.zeroCells (Value.string ⟨#[]⟩).cells (cc - k)).size = cc := by
      simp [Builtin.zeroCells, Value.cells]
      omega
    obtain ⟨cs, hcs⟩ : ∃ c, Hid ((Builtin.zeroCells (Value.string ⟨#[]⟩).cells k ++ Builtin.zeroCells (Value.string ⟨#[]⟩).cells (cc - k)) = c) := ⟨_, Lib.hid rfl⟩
    rw [hcs.out] at hrun hsz
    have hO : OwnS (w.drew.alloc (.cells cs 9)) w.heap.size 0 (some ⟨w.heap.size, 0, none⟩) cc [] := by
      refine ⟨rfl, .inr ⟨w.heap.size, cc, cs, rfl, Nat.le_refl _, World.alloc_heap_new w.drew _, Nat.zero_le _, hle, by rw [hsz]; omega, by simp⟩⟩
    have hB : Below w.heap.size w (w.drew.alloc (.cells cs 9)) := (Below.refl _ w).drew.alloc (Nat.le_refl _) _
    have Hrun := Lib.hid hrun
    have HO := Lib.hid hO
    have hcc2 : cc ≤ 9223372036854775807 := by unfold maxLen at hle; omega
    clear hrun hO
    go_enter Try.func124, Try.ntmps124
    go_wp2_with (at_builtin; refine wpList_append_run rfl _ _ 25 3 rfl _ _ _ _ rfl rfl Hrun.out ?_)
    exact bodyPost_ret (v := .slice (some ⟨w.heap.size, 0, none⟩) 0 cc) (by simp [results, Try.results124, go_sem]; try first | rfl | assumption | omega) rfl ⟨_, cc, rfl, HO.out, hB⟩

/-- Names of alternatives, one behind another. -/
def flat (ds : List AltD) : List ByteArray := (ds.map AltD.l).flatten
theorem flat_snoc (ds : List AltD) (d : AltD) : flat (ds ++ [d]) = flat ds ++ d.l := by simp [flat]
theorem flat_take (ds : List AltD) (i : Nat) (h : i < ds.length) : flat (ds.take (i + 1)) = flat (ds.take i) ++ ds[i].l := by
  rw [List.take_add_one, List.getElem?_eq_getElem h]
  exact flat_snoc _ _
theorem flat_le (ds : List AltD) (i : Nat) : (flat (ds.take i)).length ≤ (flat ds).length := by
  have : flat ds = flat (ds.take i) ++ flat (ds.drop i) := by
    unfold flat
    rw [← List.flatten_append, ← List.map_append, List.take_append_drop]
  rw [this, List.length_append]
  omega

set_option maxRecDepth 100000 in
set_option maxHeartbeats 4000000 in
theorem concat_any (ds : List AltD) (a : Option Addr) (cap : Nat) (w : World) (hl : Alts w a cap ds) (hfew : (flat ds).length ≤ 1000000) :
    Calls Try.prog 97 #[.slice a ds.length cap] w fun e w' => ∃ a' c' n, e = .returned (.slice a' n c') ∧ OwnS w' w.heap.size n a' c' (flat ds) ∧ Below w.heap.size w w' := by
  have hlm : ds.length ≤ cap ∧ cap ≤ 9223372036854775807 := ⟨by have := hl.row.le; rwa [List.length_map] at this, hl.row.max⟩
  obtain ⟨L, HL⟩ : ∃ L, Hid (ds.length = L) := ⟨_, Lib.hid rfl⟩
  rw [HL.out] at hlm ⊢
  have HT : Hid (flat (ds.take L) = flat ds) := Lib.hid (by rw [List.take_of_length_le (by rw [HL.out]; exact Nat.le_refl _)])
  have Hfew := Lib.hid hfew
  have Hst : Hid (∀ i (h : i < ds.length), flat (ds.take (i + 1)) = flat (ds.take i) ++ ds[i].l) := Lib.hid (flat_take ds)
  have Hle : Hid (∀ i, (flat (ds.take i)).length ≤ 1000000) := Lib.hid (fun i => Nat.le_trans (flat_le ds i) hfew)
  clear hfew
  go_enter Try.func97, Try.ntmps97
  go_wp2_with (fail)
  go_loopw [3, 11] (fun s iv wr => ∃ (i A : Nat), i ≤ L ∧ iv = .int .i64 (i : Int) ∧ s = .int .i64 (A : Int) ∧ Hid ((flat (ds.take i)).length = A) ∧ wr = w) (fun _ iv _ => L - (intOf iv).toNat)
  case atStart => exact ⟨0, 0, Nat.zero_le _, rfl, rfl, Lib.hid rfl, rfl⟩
  case round =>
    obtain ⟨i, A, hi, rfl, rfl, HA, hwr⟩ := hrel
    subst hwr
    by_cases hlt : i < L
    · have hiI : (i : Int) < (L : Int) := by omega
      have hiI0 : (0 : Int) ≤ (i : Int) := by omega
      have hil : i < ds.length := by rw [HL.out]; exact hlt
      obtain ⟨b, off, rfl⟩ := hl.row.at_ i (by rw [List.length_map]; exact hil)
      have c0 := hl.row.cell b off rfl i (by rw [List.length_map]; exact hil)
      rw [List.getElem_map, altv] at c0
      have hst := Hst.out i hil
      obtain ⟨d, hd⟩ : ∃ v, Hid (ds[i] = v) := ⟨_, Lib.hid rfl⟩
      rw [hd.out] at c0 hst
      have hbl := World.block_lt_of_cell? wr _ c0
      obtain ⟨D, hD⟩ : ∃ q, Hid (d.l.length = q) := ⟨_, Lib.hid rfl⟩
      rw [hD.out] at c0
      have hA2 : Hid ((flat (ds.take (i + 1))).length = A + D) := Lib.hid (by rw [hst, List.length_append, HA.out, hD.out])
      have hB2 : A + D ≤ 1000000 := by have := Hle.out (i + 1); rw [hA2.out] at this; exact this
      clear hst
      have h1 : ¬ ((A : Int) + (D : Int) < 0) := by omega
      have h2 : (A : Int) + (D : Int) ≤ 1000000 := by omega
      have h3 : (0 : Int) ≤ (A : Int) + (D : Int) := by omega
      go_wp2_with (fail)
      exact ⟨⟨i + 1, A + D, by omega, by go_num, by go_num, hA2, by first | rfl | trivial⟩, by simp [intOf]; omega⟩
    · obtain rfl : i = L := by omega
      have hiI : ¬ (i : Int) < (i : Int) := by omega
      have hA1 : A ≤ 1000000 := by have := Hle.out i; rw [HA.out] at this; exact this
      have Hg := Lib.hid (grow_any A wr hA1)
      go_wp2_with (fail)
      refine Hg.out.mono ?_
      clear Hg
      rintro r w1 ⟨a1, c1, rfl, ho1, hb1⟩
      have HO1 := Lib.hid ho1
      clear ho1
      go_wp2_with (fail)
      obtain ⟨B, hB⟩ : ∃ B, Hid (wr.heap.size = B) := ⟨_, Lib.hid rfl⟩
      go_loopw [6, 27] (fun s iv wv => ∃ (j n : Nat) (a' : Option Addr) (c' : Nat), j ≤ i ∧ iv = .int .i64 (j : Int) ∧ s = .slice a' n c' ∧ Hid (OwnS wv B n a' c' (flat (ds.take j))) ∧ Below B wr wv) (fun _ iv _ => i - (intOf iv).toNat)
      case atStart => exact ⟨0, 0, a1, c1, Nat.zero_le _, rfl, rfl, Lib.hid (by rw [← hB.out]; exact HO1.out), by rw [← hB.out]; exact hb1⟩
      case round =>
        obtain ⟨j, n, a', c', hj, rfl, rfl, HO, hbr⟩ := hrel
        by_cases hltj : j < i
        · have hjI : (j : Int) < (i : Int) := by omega
          have hjI0 : (0 : Int) ≤ (j : Int) := by omega
          have hjl : j < ds.length := by rw [HL.out]; exact hltj
          have hbr2 := hbr
          rw [← hB.out] at hbr2
          obtain ⟨b, off, rfl⟩ := hl.row.at_ j (by rw [List.length_map]; exact hjl)
          have c0 := (hl.row.grown hbr2).cell b off rfl j (by rw [List.length_map]; exact hjl)
          rw [List.getElem_map, altv] at c0
          have Hst2 := Lib.hid (Hst.out j hjl)
          have hmd : ds[j] ∈ ds := List.getElem_mem hjl
          obtain ⟨d, hd⟩ : ∃ v, Hid (ds[j] = v) := ⟨_, Lib.hid rfl⟩
          rw [hd.out] at c0 Hst2 hmd
          have hbl := World.block_lt_of_cell? _ _ c0
          have hNd := (hl.nms d hmd).grown hbr2
          have hnl := OwnS.len HO.out
          have hle2 := Hle.out (j + 1)
          rw [Hst2.out, List.length_append, hnl] at hle2
          obtain ⟨a2, c2, w2, hrun, ho, hb2⟩ := OwnS.app HO.out d.a d.c d.l hNd 25 (by omega) (by rw [← hB.out]; exact hbr2.size)
          obtain ⟨D, hD⟩ : ∃ q, Hid (d.l.length = q) := ⟨_, Lib.hid rfl⟩
          rw [hD.out] at c0 hrun ho
          have Hrun := Lib.hid hrun
          have HO2 := Lib.hid ho
          have hb3 := hbr.trans hb2
          clear hrun ho hb2 hnl hle2 hNd
          go_wp2_with (at_builtin; refine wpList_append_run rfl _ _ 25 25 rfl _ _ _ _ rfl rfl Hrun.out ?_)
          exact ⟨⟨j + 1, n + D, a2, c2, by omega, by go_num, rfl, Lib.hid (by rw [Hst2.out]; exact HO2.out), hb3⟩, by simp [intOf]; omega⟩
        · obtain rfl : j = i := by omega
          have hjI : ¬ (j : Int) < (j : Int) := by omega
          go_wp2_with (fail)
          exact bodyPost_ret (v := .slice a' n c') (by simp [results, Try.results97, go_sem]; try first | rfl | assumption | omega) rfl ⟨a', c', n, rfl, by have := HO.out; rw [HT.out] at this; rw [hB.out]; exact this, by rw [hB.out]; exact hbr⟩

set_option maxRecDepth 100000 in
set_option maxHeartbeats 1000000 in
theorem namesIn_any (r : RlD) (w : World) (hr : Alts w r.a r.c r.ds) (hfew : (flat r.ds).length ≤ 1000000) :
    Calls Try.prog 54 #[.agg #[.string r.n, .slice r.a r.ds.length r.c]] w fun e w' => ∃ a' c' n, e = .returned (.slice a' n c') ∧ OwnS w' w.heap.size n a' c' (flat r.ds) ∧ Below w.heap.size w w' := by
  have hb1 : Below w.heap.size w (w.alloc (.cells #[.string r.n, .slice r.a r.ds.length r.c] 34)) := (Below.refl _ w).alloc (Nat.le_refl _) _
  have Hc := Lib.hid (concat_any r.ds r.a r.c _ (hr.grown hb1) hfew)
  have hA := Blk.new w 34 #[.string r.n, .slice r.a r.ds.length r.c]
  obtain ⟨L, HL⟩ : ∃ L, Hid (r.ds.length = L) := ⟨_, Lib.hid rfl⟩
  rw [HL.out] at hb1 Hc hA ⊢
  have x1 := hA.cell 1
  have xl := hA.lt
  simp only [List.getElem?_cons_zero, List.getElem?_cons_succ] at x1
  clear hA
  go_enter Try.func54, Try.ntmps54
  go_wp2_with (fail)
  refine Hc.out.mono ?_
  rintro e w3 ⟨a', c', n, rfl, ho, hb3⟩
  have HO := Lib.hid ho
  clear ho
  have hb4 := hb1.trans (hb3.mono hb1.size)
  go_wp2_with (fail)
  exact bodyPost_ret (v := .slice a' n c') (by simp [results, Try.results54, go_sem]; try first | rfl | assumption | omega) rfl ⟨a', c', n, rfl, own_mono HO.out hb1.size, hb4⟩
end Go.Proofs.Ytiopbjgpaidemaa

