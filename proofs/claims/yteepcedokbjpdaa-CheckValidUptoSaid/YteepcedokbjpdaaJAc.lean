/- Texts joined: Xn Xq Xr Xs Xt Xu Xv. -/
import Derived.Test.YteepcedokbjpdaaJAb
import Derived.BigRegion
import Derived.Deep.RegionHeld3
set_option linter.unusedVariables false
set_option linter.unusedSimpArgs false
namespace Go.Proofs.Yteepcedokbjpdaa
open Go.RowKit Go.Shelf

attribute [local go_sem] Oper.semAt_some

def mayR (r : RlD) : Bool := nameB r.n && decide (r.ds.length ≠ 0) && r.ds.all (fun d => d.l.all nameB)
def mayG (rs : List RlD) : Bool := rs.all mayR && decide (0 < rs.length)
def chkG (rs : List RlD) : Int := if mayG rs then if longG rs then 2 else 0 else 1

set_option maxRecDepth 100000 in
set_option maxHeartbeats 1000000 in
theorem areNames_any (l : List ByteArray) (a : Option Addr) (cap : Nat) (w : World) (hl : Nms w a cap l) :
    Calls Try.prog 66 #[.slice a l.length cap] w fun r w' => r = .returned (.bool (l.all nameB)) ∧ w' = w := by
  have hlm : l.length ≤ cap ∧ cap ≤ 9223372036854775807 := ⟨by have := hl.le; rw [List.length_map] at this; exact this, hl.max⟩
  obtain ⟨L, HL⟩ : ∃ L, Hid (l.length = L) := ⟨_, Lib.hid rfl⟩
  rw [HL.out] at hlm ⊢
  obtain ⟨R, hR⟩ : ∃ R, Hid (l.all nameB = R) := ⟨_, Lib.hid rfl⟩
  rw [hR.out]
  go_enter Try.func66, Try.ntmps66
  go_wp2_with (fail)
  go_loopw [7] (fun iv wr => ∃ k : Nat, k ≤ L ∧ iv = .int .i64 (k : Int) ∧ R = (l.drop k).all nameB ∧ wr = w) (fun iv _ => L - (intOf iv).toNat)
  case atStart => exact ⟨0, Nat.zero_le _, rfl, hR.out.symm, rfl⟩
  case round =>
    obtain ⟨k, hk, rfl, hr, hbr⟩ := hrel
    subst hbr
    have HR := Lib.hid hr
    clear hr
    by_cases hlt : k < L
    · have hkI : (k : Int) < (L : Int) := by omega
      have hkI0 : (0 : Int) ≤ (k : Int) := by omega
      have hkl : k < l.length := by rw [HL.out]; exact hlt
      obtain ⟨b, off, rfl⟩ := hl.at_ k (by rw [List.length_map]; exact hkl)
      have c0 := hl.cell b off rfl k (by rw [List.length_map]; exact hkl)
      rw [List.getElem_map] at c0
      have hdr : Hid (l.drop k = l[k] :: l.drop (k + 1)) := Lib.hid (List.drop_eq_getElem_cons hkl)
      obtain ⟨e, he⟩ : ∃ v, Hid (l[k] = v) := ⟨_, Lib.hid rfl⟩
      rw [he.out] at c0
      have hbl := World.block_lt_of_cell? _ _ c0
      have hc := isName_any e wr
      obtain ⟨S, hS⟩ : ∃ S, Hid (nameB e = S) := ⟨_, Lib.hid rfl⟩
      rw [hS.out] at hc
      have Hc := Lib.hid hc
      clear hc
      go_wp2_with (fail)
      refine Hc.out.mono ?_
      rintro r w3 ⟨rfl, hw3⟩
      subst w3
      cases S
      · have hF : Hid (R = false) := Lib.hid (by rw [HR.out, hdr.out, List.all_cons, he.out, hS.out, Bool.false_and])
        go_wp2_with (fail)
        exact bodyPost_ret (v := .bool false) (by simp [results, Try.results66, go_sem]; try first | rfl | assumption | omega) rfl ⟨by rw [hF.out], rfl⟩
      · go_wp2_with (fail)
        exact ⟨⟨k + 1, by omega, by simp, by rw [HR.out, hdr.out, List.all_cons, he.out, hS.out, Bool.true_and], by first | rfl | trivial⟩, by simp [intOf]; omega⟩
    · obtain rfl : k = L := by omega
      have hkI : ¬ (k : Int) < (k : Int) := by omega
      have hT : Hid (R = true) := Lib.hid (by rw [HR.out, List.drop_eq_nil_of_le (by rw [HL.out]; exact Nat.le_refl _)]; rfl)
      go_wp2_with (fail)
      exact bodyPost_ret (v := .bool true) (by simp [results, Try.results66, go_sem]; try first | rfl | assumption | omega) rfl ⟨by rw [hT.out], rfl⟩

set_option maxRecDepth 100000 in
set_option maxHeartbeats 2000000 in
theorem mayBe_any (rs : List RlD) (a : Option Addr) (cap : Nat) (w : World) (hl : Rls w a cap rs) :
    Calls Try.prog 58 #[.agg #[.slice a rs.length cap]] w fun r w' => r = .returned (.bool (mayG rs)) ∧ Below w.heap.size w w' := by
  have hlm : rs.length ≤ cap ∧ cap ≤ 9223372036854775807 := ⟨hl.le, hl.max⟩
  have hA0 := Blk.new w 24 #[.slice a rs.length cap]
  have hb0 : Below w.heap.size w (w.alloc (.cells #[.slice a rs.length cap] 24)) := (Below.refl _ w).alloc (Nat.le_refl _) _
  have hs0 : w.heap.size < (w.alloc (.cells #[.slice a rs.length cap] 24)).heap.size := by simp [go_sem]
  unfold mayG
  obtain ⟨L, HL⟩ : ∃ L, Hid (rs.length = L) := ⟨_, Lib.hid rfl⟩
  rw [HL.out] at hlm hA0 hb0 hs0 ⊢
  obtain ⟨R, hR⟩ : ∃ R, Hid (rs.all mayR = R) := ⟨_, Lib.hid rfl⟩
  rw [hR.out]
  obtain ⟨G, hG⟩ : ∃ G, Hid ((R && decide (0 < L)) = G) := ⟨_, Lib.hid rfl⟩
  rw [hG.out]
  have x0 := hA0.cell 0
  have xl := hA0.lt
  simp only [List.getElem?_cons_zero] at x0
  go_enter Try.func58, Try.ntmps58
  go_wp2_with (fail)
  generalize hW : World.alloc w _ = W at x0 xl hA0 hb0 hs0 ⊢
  have HW := Lib.hid hW
  clear hW hA0
  go_loopw [10] (fun iv wr => ∃ k : Nat, k ≤ L ∧ iv = .int .i64 (k : Int) ∧ Hid (R = (rs.drop k).all mayR) ∧ Below W.heap.size W wr) (fun iv _ => L - (intOf iv).toNat)
  case atStart => exact ⟨0, Nat.zero_le _, rfl, Lib.hid hR.out.symm, Below.refl _ _⟩
  case round =>
    obtain ⟨k, hk, rfl, HR, hbr⟩ := hrel
    have hbw := hb0.trans (hbr.mono hb0.size)
    by_cases hlt : k < L
    · have hkI : (k : Int) < (L : Int) := by omega
      have hkI0 : (0 : Int) ≤ (k : Int) := by omega
      have hkl : k < rs.length := by rw [HL.out]; exact hlt
      obtain ⟨b, off, rfl⟩ := hl.at_ k hkl
      obtain ⟨c0, c1⟩ := (hl.grown hbw).cell b off rfl k hkl
      have hdr : Hid (rs.drop k = rs[k] :: rs.drop (k + 1)) := Lib.hid (List.drop_eq_getElem_cons hkl)
      have hm : rs[k] ∈ rs := List.getElem_mem hkl
      obtain ⟨e, he⟩ : ∃ v, Hid (rs[k] = v) := ⟨_, Lib.hid rfl⟩
      rw [he.out] at c0 c1 hm
      have hbl := World.block_lt_of_cell? wr _ c0
      have hal := Lib.hid (hl.alts e hm)
      have hB0 := Blk.new wr 48 #[.string e.n, .slice e.a e.ds.length e.c]
      have hb1 : Below wr.heap.size wr (wr.alloc (.cells #[.string e.n, .slice e.a e.ds.length e.c] 48)) := (Below.refl _ wr).alloc (Nat.le_refl _) _
      have hem : e.ds.length ≤ e.c ∧ e.c ≤ 9223372036854775807 := ⟨by have := hal.out.row.le; rw [List.length_map] at this; exact this, hal.out.row.max⟩
      obtain ⟨M, HM⟩ : ∃ M, Hid (e.ds.length = M) := ⟨_, Lib.hid rfl⟩
      rw [HM.out] at hB0 hb1 c1 hem
      have y0 := hB0.cell 0
      have y1 := hB0.cell 1
      have yl := hB0.lt
      simp only [List.getElem?_cons_zero, List.getElem?_cons_succ] at y0 y1
      have HRs : Hid (R = (mayR e && (rs.drop (k + 1)).all mayR)) := Lib.hid (by rw [HR.out, hdr.out, List.all_cons, he.out])
      have HmR : Hid (mayR e = (nameB e.n && decide (M ≠ 0) && e.ds.all (fun d => d.l.all nameB))) := Lib.hid (by unfold mayR; rw [HM.out])
      clear hm hB0
      have Hc := Lib.hid (isName_any e.n (wr.alloc (.cells #[.string e.n, .slice e.a M e.c] 48)))
      obtain ⟨S, hS⟩ : ∃ S, Hid (nameB e.n = S) := ⟨_, Lib.hid rfl⟩
      rw [hS.out] at Hc HmR
      cases S
      · have hF : Hid (R = false) := Lib.hid (by rw [HRs.out, HmR.out]; rfl)
        go_wp2_with (fail)
        refine Hc.out.mono ?_
        rintro r w3 ⟨rfl, hw3⟩
        subst w3
        go_wp2_with (fail)
        exact bodyPost_ret (v := .bool false) (by simp [results, Try.results58, go_sem]; try first | rfl | assumption | omega) rfl ⟨by rw [← hG.out, hF.out]; rfl, hbw.trans (hb1.mono hbw.size)⟩
      · by_cases hM : M = 0
        · have hF : Hid (R = false) := Lib.hid (by rw [HRs.out, HmR.out, hM]; rfl)
          have hMI : (M : Int) = 0 := by omega
          clear hM
          go_wp2_with (fail)
          refine Hc.out.mono ?_
          rintro r w3 ⟨rfl, hw3⟩
          subst w3
          go_wp2_with (fail)
          exact bodyPost_ret (v := .bool false) (by simp [results, Try.results58, go_sem]; try first | rfl | assumption | omega) rfl ⟨by rw [← hG.out, hF.out]; rfl, hbw.trans (hb1.mono hbw.size)⟩
        · have hMI : ¬ (M : Int) = 0 := by omega
          obtain ⟨Q, hQ⟩ : ∃ Q, Hid (e.ds.all (fun d => d.l.all nameB) = Q) := ⟨_, Lib.hid rfl⟩
          have HRq : Hid (R = (Q && (rs.drop (k + 1)).all mayR)) := Lib.hid (by rw [HRs.out, HmR.out, hQ.out, decide_eq_true hM]; rfl)
          go_wp2_with (fail)
          refine Hc.out.mono ?_
          rintro r w3 ⟨rfl, hw3⟩
          subst w3
          go_wp2_with (fail)
          generalize hV : World.alloc wr _ = V at y0 y1 yl hb1 ⊢
          clear hV Hc
          have hMB : ((M : Int) == 0) = false := by simpa using hMI
          simp only [hMB]
          clear hMB
          go_loopw [27] (fun iv wr => ∃ j : Nat, j ≤ M ∧ iv = .int .i64 (j : Int) ∧ Hid (Q = (e.ds.drop j).all (fun d => d.l.all nameB)) ∧ wr = V) (fun iv _ => M - (intOf iv).toNat)
          case atStart => exact ⟨0, Nat.zero_le _, rfl, Lib.hid hQ.out.symm, rfl⟩
          case round =>
            obtain ⟨j, hj, rfl, HQ, hwx⟩ := hrel
            have HWX := Lib.hid hwx
            clear hwx
            have hbV : Below w.heap.size w wr := by rw [HWX.out]; exact hbw.trans (hb1.mono hbw.size)
            by_cases hjt : j < M
            · have hjI : (j : Int) < (M : Int) := by omega
              have hjI0 : (0 : Int) ≤ (j : Int) := by omega
              have hjl : j < e.ds.length := by rw [HM.out]; exact hjt
              obtain ⟨eb, eo, hea⟩ := hal.out.row.at_ j (by rw [List.length_map]; exact hjl)
              have c2 := (hal.out.grown hbV).row.cell eb eo hea j (by rw [List.length_map]; exact hjl)
              rw [List.getElem_map] at c2
              have hd2 : Hid (e.ds.drop j = e.ds[j] :: e.ds.drop (j + 1)) := Lib.hid (List.drop_eq_getElem_cons hjl)
              have hm2 : e.ds[j] ∈ e.ds := List.getElem_mem hjl
              obtain ⟨d, hd⟩ : ∃ v, Hid (e.ds[j] = v) := ⟨_, Lib.hid rfl⟩
              rw [hd.out] at c2 hm2
              have hbl2 := World.block_lt_of_cell? _ _ c2
              have hc2 := areNames_any d.l d.a d.c wr ((hal.out.nms d hm2).grown hbV)
              obtain ⟨S2, hS2⟩ : ∃ S, Hid (d.l.all nameB = S) := ⟨_, Lib.hid rfl⟩
              rw [hS2.out] at hc2
              have Hc2 := Lib.hid hc2
              clear hc2 hm2
              rw [hea]
              go_wp2_with (fail)
              refine Hc2.out.mono ?_
              rintro r w3 ⟨rfl, hw3⟩
              obtain rfl : wr = w3 := hw3.symm
              cases S2
              · have hF : Hid (R = false) := Lib.hid (by rw [HRq.out, HQ.out, hd2.out, List.all_cons, hd.out, hS2.out]; rfl)
                go_wp2_with (fail)
                exact bodyPost_ret (v := .bool false) (by simp [results, Try.results58, go_sem]; try first | rfl | assumption | omega) rfl ⟨by rw [← hG.out, hF.out]; rfl, hbV⟩
              · go_wp2_with (fail)
                exact ⟨⟨j + 1, by omega, by simp, Lib.hid (by rw [HQ.out, hd2.out, List.all_cons, hd.out, hS2.out, Bool.true_and]), HWX.out⟩, by simp [intOf]; omega⟩
            · obtain rfl : j = M := by omega
              have hjI : ¬ (j : Int) < (j : Int) := by omega
              have hT : Hid (R = (rs.drop (k + 1)).all mayR) := Lib.hid (by rw [HRq.out, HQ.out, List.drop_eq_nil_of_le (by rw [HM.out]; exact Nat.le_refl _)]; rfl)
              go_wp2_with (fail)
              exact ⟨⟨k + 1, by omega, by simp, hT, by rw [HWX.out]; exact hbr.trans (hb1.mono hbr.size)⟩, by simp [intOf]; omega⟩
    · obtain rfl : k = L := by omega
      have hkI : ¬ (k : Int) < (k : Int) := by omega
      have hT : Hid (R = true) := Lib.hid (by rw [HR.out, List.drop_eq_nil_of_le (by rw [HL.out]; exact Nat.le_refl _)]; rfl)
      have x1 := cell_up hbr x0
      by_cases h0 : 0 < k
      · have h0I : (0 : Int) < (k : Int) := by omega
        have hF : Hid (G = true) := Lib.hid (by rw [← hG.out, hT.out, decide_eq_true h0]; rfl)
        go_wp2_with (fail)
        exact bodyPost_ret (v := .bool true) (by simp [results, Try.results58, go_sem]; try first | rfl | assumption | omega) rfl ⟨by rw [hF.out], hbw⟩
      · have h0I : ¬ (0 : Int) < (k : Int) := by omega
        have hF : Hid (G = false) := Lib.hid (by rw [← hG.out, decide_eq_false h0]; exact Bool.and_false _)
        go_wp2_with (fail)
        exact bodyPost_ret (v := .bool false) (by simp [results, Try.results58, go_sem]; try first | rfl | assumption | omega) rfl ⟨by rw [hF.out], hbw⟩

set_option maxRecDepth 100000 in
set_option maxHeartbeats 1000000 in
theorem gcheck_any (rs : List RlD) (a : Option Addr) (cap : Nat) (w : World) (hl : Rls w a cap rs) :
    Calls Try.prog 37 #[.agg #[.slice a rs.length cap]] w fun r w' => r = .returned (.int .i64 (chkG rs)) ∧ Below w.heap.size w w' := by
  have hA0 := Blk.new w 24 #[.slice a rs.length cap]
  have hb0 : Below w.heap.size w (w.alloc (.cells #[.slice a rs.length cap] 24)) := (Below.refl _ w).alloc (Nat.le_refl _) _
  have Hc1 := Lib.hid (mayBe_any rs a cap _ (hl.grown hb0))
  have Hc2 := Lib.hid (fun (w2 : World) (h : Below w.heap.size w w2) => longG_any rs a cap w2 (hl.grown h))
  unfold chkG
  obtain ⟨M, hM⟩ : ∃ M, Hid (mayG rs = M) := ⟨_, Lib.hid rfl⟩
  obtain ⟨G, hG⟩ : ∃ G, Hid (longG rs = G) := ⟨_, Lib.hid rfl⟩
  rw [hM.out] at Hc1 ⊢
  rw [hG.out] at Hc2 ⊢
  obtain ⟨L, HL⟩ : ∃ L, Hid (rs.length = L) := ⟨_, Lib.hid rfl⟩
  rw [HL.out] at hA0 hb0 Hc1 Hc2 ⊢
  have x0 := hA0.cell 0
  have xl := hA0.lt
  simp only [List.getElem?_cons_zero] at x0
  cases M
  · go_enter Try.func37, Try.ntmps37
    go_wp2_with (fail)
    refine Hc1.out.mono ?_
    rintro r w1 ⟨rfl, hb1⟩
    go_wp2_with (fail)
    exact bodyPost_ret (v := .int .i64 1) (by simp [results, Try.results37, go_sem]; try first | rfl | assumption | omega) rfl ⟨rfl, hb0.trans (hb1.mono hb0.size)⟩
  · have HG : Hid ((if G = true then (2 : Int) else 0) = if G then 2 else 0) := Lib.hid rfl
    go_enter Try.func37, Try.ntmps37
    go_wp2_with (fail)
    refine Hc1.out.mono ?_
    rintro r w1 ⟨rfl, hb1⟩
    have x1 := cell_up hb1 x0
    have hb2 := hb0.trans (hb1.mono hb0.size)
    have Hd := Lib.hid (Hc2.out w1 hb2)
    go_wp2_with (fail)
    refine Hd.out.mono ?_
    rintro r w3 ⟨rfl, hb3⟩
    have hb4 := hb2.trans (hb3.mono hb2.size)
    cases G
    · go_wp2_with (fail)
      exact bodyPost_ret (v := .int .i64 0) (by simp [results, Try.results37, go_sem]; try first | rfl | assumption | omega) rfl ⟨rfl, hb4⟩
    · go_wp2_with (fail)
      exact bodyPost_ret (v := .int .i64 2) (by simp [results, Try.results37, go_sem]; try first | rfl | assumption | omega) rfl ⟨rfl, hb4⟩
end Go.Proofs.Yteepcedokbjpdaa

namespace Go.Proofs.Yteepcedokbjpdaa
end Go.Proofs.Yteepcedokbjpdaa

namespace Go.Proofs.Yteepcedokbjpdaa
open Go.RowKit Go.Shelf

attribute [local go_sem] Oper.semAt_some

theorem str_ne {s t : ByteArray} (h : ¬ s = t) : (s.toList == t.toList) = false := by
  rw [beq_eq_false_iff_ne]
  intro e
  rw [toList_is, toList_is] at e
  exact h (by cases s; cases t; rename_i x y; simp at e; rw [e])

set_option maxRecDepth 100000 in
set_option maxHeartbeats 1000000 in
theorem sameNames_any (a b : Option Addr) (ac bc : Nat) (l m : List ByteArray) (w : World) (hl : Nms w a ac l) (hm : Nms w b bc m) :
    Calls Try.prog 46 #[.slice a l.length ac, .slice b m.length bc] w fun e w' => e = .returned (.bool (decide (l = m))) ∧ Below w.heap.size w w' := by
  have hle : l.length ≤ ac := by have := hl.le; rwa [List.length_map] at this
  have hmx := hl.max
  have hle2 : m.length ≤ bc := by have := hm.le; rwa [List.length_map] at this
  have hmx2 := hm.max
  obtain ⟨L, HL⟩ : ∃ L, Hid (l.length = L) := ⟨_, Lib.hid rfl⟩
  obtain ⟨M, HM⟩ : ∃ L, Hid (m.length = L) := ⟨_, Lib.hid rfl⟩
  rw [HL.out] at hle ⊢
  rw [HM.out] at hle2 ⊢
  by_cases hLM : L = M
  · subst hLM
    go_enter Try.func46, Try.ntmps46
    go_wp2_with (fail)
    go_loopw [5, 13] (fun _ i wr => ∃ (k : Nat), k ≤ L ∧ i = .int .i64 (k : Int) ∧ l.take k = m.take k ∧ Below w.heap.size w wr) (fun _ i _ => L - (intOf i).toNat)
    case atStart => exact ⟨0, by omega, rfl, rfl, Below.refl _ w⟩
    case round =>
      obtain ⟨k, hk, rfl, hr, hbr⟩ := hrel
      have HR := Lib.hid hr
      clear hr
      by_cases hlt : k < L
      · have hkl : k < l.length := by rw [HL.out]; exact hlt
        have hkm : k < m.length := by rw [HM.out]; exact hlt
        have hkI : (k : Int) < (L : Int) := by omega
        have hkI0 : (0 : Int) ≤ (k : Int) := by omega
        obtain ⟨b1, o1, rfl⟩ := hl.at_ k (by rw [List.length_map]; exact hkl)
        obtain ⟨b2, o2, rfl⟩ := hm.at_ k (by rw [List.length_map]; exact hkm)
        have c0 := (hl.grown hbr).cell b1 o1 rfl k (by rw [List.length_map]; exact hkl)
        have d0 := (hm.grown hbr).cell b2 o2 rfl k (by rw [List.length_map]; exact hkm)
        rw [List.getElem_map] at c0 d0
        obtain ⟨s, HS⟩ : ∃ s, Hid (l[k] = s) := ⟨_, Lib.hid rfl⟩
        obtain ⟨t, HT⟩ : ∃ s, Hid (m[k] = s) := ⟨_, Lib.hid rfl⟩
        rw [HS.out] at c0
        rw [HT.out] at d0
        have hmore : Hid (l.take (k + 1) = l.take k ++ [s] ∧ m.take (k + 1) = m.take k ++ [t]) := Lib.hid ⟨by rw [List.take_add_one, List.getElem?_eq_getElem hkl, HS.out]; rfl, by rw [List.take_add_one, List.getElem?_eq_getElem hkm, HT.out]; rfl⟩
        have hne : Hid (s ≠ t → decide (l = m) = false) := Lib.hid (fun h => decide_eq_false (fun e => h (by rw [← HS.out, ← HT.out]; subst e; rfl)))
        have hbd : Below w.heap.size w wr := hbr
        have hbl := World.block_lt_of_cell? _ _ c0
        have hbl2 := World.block_lt_of_cell? _ _ d0
        by_cases e1 : s = t
        · subst e1
          clear hl hm
          go_wp2_with (fail)
          go_region
          all_goals
            go_wp2_with (fail)
            go_roundw
          case rel => exact ⟨k + 1, by omega, by go_num, by rw [hmore.out.1, hmore.out.2, HR.out], hbd.drew⟩
          case measure => simp [intOf]; omega
        · have e3 : (s.toList == t.toList) = false := str_ne e1
          have hF := Lib.hid (hne.out e1)
          clear hl hm
          go_wp2_with (fail)
          go_region
          go_wp2_with (fail)
          exact bodyPost_ret (v := .bool false) (by simp [results, Try.results46, go_sem]; try rfl) rfl ⟨by rw [hF.out], hbd.drew⟩
      · obtain rfl : k = L := by omega
        have hT : Hid (decide (l = m) = true) := Lib.hid (decide_eq_true (by have := HR.out; rwa [List.take_of_length_le (by rw [HL.out]; exact Nat.le_refl _), List.take_of_length_le (by rw [HM.out]; exact Nat.le_refl _)] at this))
        go_wp2_with (fail)
        exact bodyPost_ret (v := .bool true) (by simp [results, Try.results46, go_sem]; try rfl) rfl ⟨by rw [hT.out], hbr⟩
  · have hF : Hid (decide (l = m) = false) := Lib.hid (decide_eq_false (fun e => hLM (by rw [← HL.out, ← HM.out, e])))
    have hne : ((L : Int) == (M : Int)) = false := by rw [beq_eq_false_iff_ne]; omega
    go_enter Try.func46, Try.ntmps46
    go_wp2_with (fail)
    all_goals first
      | exact bodyPost_ret (v := .bool false) (by simp [results, Try.results46, go_sem]; try rfl) rfl ⟨by rw [hF.out], Below.refl _ w⟩
      | (exfalso; omega)

end Go.Proofs.Yteepcedokbjpdaa

namespace Go.Proofs.Yteepcedokbjpdaa
open Go.RowKit Go.Shelf

attribute [local go_sem] Oper.semAt_some

theorem altv (d : AltD) : d.v = .slice d.a d.l.length d.c := rfl
end Go.Proofs.Yteepcedokbjpdaa

namespace Go.Proofs.Yteepcedokbjpdaa
open Go.RowKit Go.Shelf

attribute [local go_sem] Oper.semAt_some

end Go.Proofs.Yteepcedokbjpdaa

namespace Go.Proofs.Yteepcedokbjpdaa
open Go.RowKit Go.Shelf

attribute [local go_sem] Oper.semAt_some

theorem atL {α : Type} {l : List α} {i : Nat} {x : α} (h : l[i]? = some x) : l.toArray[i]? = some x := by simpa using h
theorem atZ {α : Type} {a : α} {l : List α} : (a :: l)[0]? = some a := rfl
theorem atS {α : Type} {a : α} {l : List α} {i : Nat} {x : α} (h : l[i]? = some x) : (a :: l)[i + 1]? = some x := by simpa using h


theorem grP_take (l : List RlD) (k : Nat) (h : k < l.length) : grP (l.take (k + 1)) = grP (l.take k) ++ [(l[k]).p] := by
  unfold grP; rw [List.take_add_one, List.getElem?_eq_getElem h, List.map_append]; rfl
theorem alP_take (l : List AltD) (k : Nat) (h : k < l.length) : (l.take (k + 1)).map AltD.l = (l.take k).map AltD.l ++ [(l[k]).l] := by
  rw [List.take_add_one, List.getElem?_eq_getElem h, List.map_append]; rfl

set_option maxRecDepth 100000 in
set_option maxHeartbeats 4000000 in
theorem refGSame_any (a b : Option Addr) (ac bc : Nat) (l m : List RlD) (w : World) (hl : Rls w a ac l) (hm : Rls w b bc m) :
    Calls Try.prog 22 #[.agg #[.slice a l.length ac], .agg #[.slice b m.length bc]] w fun e w' => e = .returned (.bool (decide (grP l = grP m))) ∧ Below w.heap.size w w' := by
  have hle := hl.le
  have hmx := hl.max
  have hle2 := hm.le
  have hmx2 := hm.max
  have hb1 : Below w.heap.size w (w.alloc (.cells #[.slice a l.length ac] 24)) := (Below.refl _ w).alloc (Nat.le_refl _) _
  have hb2 : Below w.heap.size w ((w.alloc (.cells #[.slice a l.length ac] 24)).alloc (.cells #[.slice b m.length bc] 24)) := hb1.alloc hb1.size _
  obtain ⟨R, hR⟩ : ∃ R, Hid (decide (grP l = grP m) = R) := ⟨_, Lib.hid rfl⟩
  rw [hR.out]
  have hA := Blk.new w 24 #[.slice a l.length ac]
  have hB := Blk.new (w.alloc (.cells #[.slice a l.length ac] 24)) 24 #[.slice b m.length bc]
  have hA2 := hA.alloc (.cells #[.slice b m.length bc] 24)
  have hlen : l.length ≠ m.length → R = false := fun h => by
    rw [← hR.out]
    exact decide_eq_false (fun e => h (by have := congrArg List.length e; unfold grP at this; rwa [List.length_map, List.length_map] at this))
  obtain ⟨L, HL⟩ : ∃ L, Hid (l.length = L) := ⟨_, Lib.hid rfl⟩
  obtain ⟨M, HM⟩ : ∃ L, Hid (m.length = L) := ⟨_, Lib.hid rfl⟩
  rw [HL.out] at hb1 hb2 hA hB hA2 hle hlen ⊢
  rw [HM.out] at hb2 hB hA2 hle2 hlen ⊢
  have Hlen := Lib.hid hlen
  have x0 := hA.cell 0
  have xl := hA.lt
  have y0 := hB.cell 0
  have yl := hB.lt
  have z0 := hA2.cell 0
  have zl := hA2.lt
  simp only [List.getElem?_cons_zero] at x0 y0 z0
  have hsz1 : (w.alloc (.cells #[.slice a L ac] 24)).heap.size = w.heap.size + 1 := by simp [go_sem]
  rw [hsz1] at y0 yl
  clear hA hB hA2 hlen hsz1
  by_cases hLM : L = M
  · subst hLM
    go_enter Try.func22, Try.ntmps22
    go_wp2_with (fail)
    generalize hW : World.alloc (World.alloc w _) _ = W at z0 zl y0 yl hb2 ⊢
    clear hW x0 xl hb1
    go_loopw [19] (fun i wr => ∃ (k : Nat), k ≤ L ∧ i = .int .i64 (k : Int) ∧ Hid (grP (l.take k) = grP (m.take k)) ∧ Below W.heap.size W wr) (fun i _ => L - (intOf i).toNat)
    case atStart => exact ⟨0, by omega, rfl, Lib.hid rfl, Below.refl _ _⟩
    case round =>
      obtain ⟨k, hk, rfl, HR, hbr⟩ := hrel
      have hbw := hb2.trans (hbr.mono hb2.size)
      by_cases hlt : k < L
      · have hkl : k < l.length := by rw [HL.out]; exact hlt
        have hkm : k < m.length := by rw [HM.out]; exact hlt
        have hkI : (k : Int) < (L : Int) := by omega
        have hkI0 : (0 : Int) ≤ (k : Int) := by omega
        obtain ⟨b1, o1, rfl⟩ := hl.at_ k hkl
        obtain ⟨b2, o2, rfl⟩ := hm.at_ k hkm
        obtain ⟨c0, c1⟩ := (hl.grown hbw).cell b1 o1 rfl k hkl
        obtain ⟨d0, d1⟩ := (hm.grown hbw).cell b2 o2 rfl k hkm
        have g0 := cell_up hbr z0
        have g1 := cell_up hbr y0
        have gl := World.block_lt_of_cell? _ _ g0
        have gl1 := World.block_lt_of_cell? _ _ g1
        have m1 : l[k] ∈ l := List.getElem_mem hkl
        have m2 : m[k] ∈ m := List.getElem_mem hkm
        have hmoreA := grP_take l k hkl
        have hmoreB := grP_take m k hkm
        obtain ⟨s, HS⟩ : ∃ s, Hid (l[k] = s) := ⟨_, Lib.hid rfl⟩
        obtain ⟨t, HT⟩ : ∃ s, Hid (m[k] = s) := ⟨_, Lib.hid rfl⟩
        rw [HS.out] at c0 c1 m1 hmoreA
        rw [HT.out] at d0 d1 m2 hmoreB
        have hmore : Hid (grP (l.take (k + 1)) = grP (l.take k) ++ [s.p] ∧ grP (m.take (k + 1)) = grP (m.take k) ++ [t.p]) := Lib.hid ⟨hmoreA, hmoreB⟩
        clear hmoreA hmoreB
        have hne : Hid (s.p ≠ t.p → R = false) := Lib.hid (fun h => by
          rw [← hR.out]
          refine decide_eq_false (fun e => h ?_)
          have h1 : (grP l)[k]'(by unfold grP; rw [List.length_map]; exact hkl) = s.p := by unfold grP; rw [List.getElem_map, HS.out]
          have h2 : (grP m)[k]'(by unfold grP; rw [List.length_map]; exact hkm) = t.p := by unfold grP; rw [List.getElem_map, HT.out]
          rw [← h1, ← h2]
          simp only [e])
        have hal := Lib.hid (hl.alts s m1)
        have hbl' := Lib.hid (hm.alts t m2)
        have hsm : s.ds.length ≤ s.c ∧ s.c ≤ 9223372036854775807 := ⟨by have := hal.out.row.le; rw [List.length_map] at this; exact this, hal.out.row.max⟩
        have htm : t.ds.length ≤ t.c ∧ t.c ≤ 9223372036854775807 := ⟨by have := hbl'.out.row.le; rw [List.length_map] at this; exact this, hbl'.out.row.max⟩
        have hbl := World.block_lt_of_cell? _ _ c0
        have hbl2 := World.block_lt_of_cell? _ _ d0
        have hA := Blk.new wr 48 #[.string s.n, .slice s.a s.ds.length s.c]
        have hB := Blk.new (wr.alloc (.cells #[.string s.n, .slice s.a s.ds.length s.c] 48)) 48 #[.string t.n, .slice t.a t.ds.length t.c]
        have hA2 := hA.alloc (.cells #[.string t.n, .slice t.a t.ds.length t.c] 48)
        have hb3 : Below wr.heap.size wr (wr.alloc (.cells #[.string s.n, .slice s.a s.ds.length s.c] 48)) := (Below.refl _ wr).alloc (Nat.le_refl _) _
        have hb4 : Below wr.heap.size wr ((wr.alloc (.cells #[.string s.n, .slice s.a s.ds.length s.c] 48)).alloc (.cells #[.string t.n, .slice t.a t.ds.length t.c] 48)) := hb3.alloc hb3.size _
        have hnl : Hid (s.ds.length ≠ t.ds.length → R = false) := Lib.hid (fun h => hne.out (fun e => h (by have := congrArg (fun x => x.2.length) e; simp only [RlD.p, List.length_map] at this; exact this)))
        have hnn : Hid (s.n ≠ t.n → R = false) := Lib.hid (fun h => hne.out (fun e => h (congrArg Prod.fst e)))
        obtain ⟨N, HN⟩ : ∃ L, Hid (s.ds.length = L) := ⟨_, Lib.hid rfl⟩
        obtain ⟨K, HK⟩ : ∃ L, Hid (t.ds.length = L) := ⟨_, Lib.hid rfl⟩
        rw [HN.out] at hsm hA hB hA2 hb3 hb4 c1 hnl
        rw [HK.out] at htm hB hA2 hb4 d1 hnl
        obtain ⟨sn, HSN⟩ : ∃ v, Hid (s.n = v) := ⟨_, Lib.hid rfl⟩
        obtain ⟨tn, HTN⟩ : ∃ v, Hid (t.n = v) := ⟨_, Lib.hid rfl⟩
        rw [HSN.out] at hA hB hA2 hb3 hb4 c0 hnn
        rw [HTN.out] at hB hA2 hb4 d0 hnn
        have hAc0 := hA.cell 0
        have hAc1 := hA.cell 1
        have hAl := hA.lt
        have hBc0 := hB.cell 0
        have hBc1 := hB.cell 1
        have hBl := hB.lt
        have hDc0 := hA2.cell 0
        have hDc1 := hA2.cell 1
        have hDl := hA2.lt
        simp only [List.getElem?_cons_zero, List.getElem?_cons_succ] at hAc0 hAc1 hBc0 hBc1 hDc0 hDc1
        have hb5 := hbr.trans (hb4.mono hbr.size)
        have hsz2 : (wr.alloc (.cells #[.string sn, .slice s.a N s.c] 48)).heap.size = wr.heap.size + 1 := by simp [go_sem]
        rw [hsz2] at hBc0 hBc1 hBl
        clear hA hB hA2 m1 m2 hsz2
        by_cases e1 : sn = tn
        case neg =>
          have e3 : (sn.toList == tn.toList) = false := str_ne e1
          have hF := Lib.hid (hnn.out e1)
          go_wp2_with (fail)
          exact bodyPost_ret (v := .bool false) (by simp [results, Try.results22, go_sem]; try first | rfl | assumption | omega) rfl ⟨by rw [hF.out], hb2.trans (hb5.mono hb2.size)⟩
        case pos =>
        subst e1
        by_cases e2 : N = K
        case neg =>
          have hF := Lib.hid (hnl.out e2)
          have e3 : ((N : Int) == (K : Int)) = false := by rw [beq_eq_false_iff_ne]; omega
          go_wp2_with (fail)
          exact bodyPost_ret (v := .bool false) (by simp [results, Try.results22, go_sem]; try first | rfl | assumption | omega) rfl ⟨by rw [hF.out], hb2.trans (hb5.mono hb2.size)⟩
        case pos =>
        subst e2
        go_wp2_with (fail)
        generalize hV : World.alloc (World.alloc wr _) _ = V at hDc0 hDc1 hDl hBc0 hBc1 hBl hb5 ⊢
        have hbV := hb2.trans (hb5.mono hb2.size)
        clear hV hDc0 hBc0 hAc0 hAc1 hAl hb3 hb4 c0 c1 d0 d1 g0 g1 gl gl1 hbl hbl2
        obtain ⟨X, hX⟩ : ∃ n, Hid (wr.heap.size = n) := ⟨_, Lib.hid rfl⟩
        rw [hX.out] at hDc1 hDl hBc1 hBl
        simp only [hX.out]
        obtain ⟨Y, hY⟩ : ∃ n, Hid (X + 1 = n) := ⟨_, Lib.hid rfl⟩
        rw [hY.out] at hBc1 hBl
        simp only [hY.out]
        have HW5 := Lib.hid hb5
        clear hb5
        go_loopw [49] (fun i wr => ∃ (j : Nat), j ≤ N ∧ i = .int .i64 (j : Int) ∧ Hid ((s.ds.take j).map AltD.l = (t.ds.take j).map AltD.l) ∧ Below V.heap.size V wr) (fun i _ => N - (intOf i).toNat)
        case atStart => exact ⟨0, by omega, rfl, Lib.hid rfl, Below.refl _ _⟩
        case round =>
          obtain ⟨j, hj, rfl, HQ, hbx⟩ := hrel
          have hbU := hbV.trans (hbx.mono hbV.size)
          by_cases hjt : j < N
          · have hjl : j < s.ds.length := by rw [HN.out]; exact hjt
            have hjm : j < t.ds.length := by rw [HK.out]; exact hjt
            have hjI : (j : Int) < (N : Int) := by omega
            have hjI0 : (0 : Int) ≤ (j : Int) := by omega
            obtain ⟨eb, eo, hea⟩ := hal.out.row.at_ j (by rw [List.length_map]; exact hjl)
            obtain ⟨fb, fo, hfa⟩ := hbl'.out.row.at_ j (by rw [List.length_map]; exact hjm)
            have p0 := (hal.out.grown hbU).row.cell eb eo hea j (by rw [List.length_map]; exact hjl)
            have q0 := (hbl'.out.grown hbU).row.cell fb fo hfa j (by rw [List.length_map]; exact hjm)
            rw [List.getElem_map] at p0 q0
            have n1 : s.ds[j] ∈ s.ds := List.getElem_mem hjl
            have n2 : t.ds[j] ∈ t.ds := List.getElem_mem hjm
            have hm2A := alP_take s.ds j hjl
            have hm2B := alP_take t.ds j hjm
            have hq1 : (s.ds.map AltD.l)[j]'(by rw [List.length_map]; exact hjl) = (s.ds[j]).l := List.getElem_map ..
            have hq2 : (t.ds.map AltD.l)[j]'(by rw [List.length_map]; exact hjm) = (t.ds[j]).l := List.getElem_map ..
            obtain ⟨d, HD⟩ : ∃ v, Hid (s.ds[j] = v) := ⟨_, Lib.hid rfl⟩
            obtain ⟨f, HF⟩ : ∃ v, Hid (t.ds[j] = v) := ⟨_, Lib.hid rfl⟩
            rw [HD.out] at p0 n1 hm2A hq1
            rw [HF.out] at q0 n2 hm2B hq2
            have hmore2 : Hid ((s.ds.take (j + 1)).map AltD.l = (s.ds.take j).map AltD.l ++ [d.l] ∧ (t.ds.take (j + 1)).map AltD.l = (t.ds.take j).map AltD.l ++ [f.l]) := Lib.hid ⟨hm2A, hm2B⟩
            have hne2 : Hid (d.l ≠ f.l → R = false) := Lib.hid (fun h => hne.out (fun e => h (by
              have e2 : s.ds.map AltD.l = t.ds.map AltD.l := congrArg Prod.snd e
              rw [← hq1, ← hq2]
              simp only [e2])))
            have hnm1 := hal.out.nms d n1
            have hnm2 := hbl'.out.nms f n2
            have HC0 : Hid (∀ W', Below V.heap.size V W' → Calls Try.prog 46 #[.slice d.a d.l.length d.c, .slice f.a f.l.length f.c] W' fun e w' => e = .returned (.bool (decide (d.l = f.l))) ∧ Below W'.heap.size W' w') := Lib.hid (fun W' h =>
              sameNames_any d.a f.a d.c f.c d.l f.l W' (hnm1.grown (hbV.trans (h.mono hbV.size))) (hnm2.grown (hbV.trans (h.mono hbV.size))))
            rw [altv] at p0 q0
            obtain ⟨SS, hSS⟩ : ∃ v, Hid (decide (d.l = f.l) = v) := ⟨_, Lib.hid rfl⟩
            obtain ⟨DL, HDL⟩ : ∃ v, Hid (d.l.length = v) := ⟨_, Lib.hid rfl⟩
            obtain ⟨FL, HFL⟩ : ∃ v, Hid (f.l.length = v) := ⟨_, Lib.hid rfl⟩
            have HC : Hid (∀ W', Below V.heap.size V W' → Calls Try.prog 46 #[.slice d.a DL d.c, .slice f.a FL f.c] W' fun e w' => e = .returned (.bool SS) ∧ Below W'.heap.size W' w') := Lib.hid (by
              have h1 := HC0.out
              rw [hSS.out, HDL.out, HFL.out] at h1
              exact h1)
            rw [HDL.out] at p0
            rw [HFL.out] at q0
            have k1 := cell_up hbx hDc1
            have k2 := cell_up hbx hBc1
            rw [hea] at k1 ⊢
            rw [hfa] at k2 ⊢
            have HSt : Hid ((wr.drew.cell? ⟨X, 1, none⟩ = some (.slice (some ⟨eb, eo, none⟩) N s.c) ∧ wr.drew.cell? ⟨Y, 1, none⟩ = some (.slice (some ⟨fb, fo, none⟩) N t.c) ∧ wr.drew.cell? ⟨eb, eo + j, none⟩ = some (.slice d.a DL d.c) ∧ wr.drew.cell? ⟨fb, fo + j, none⟩ = some (.slice f.a FL f.c) ∧ Below V.heap.size V wr.drew)) := Lib.hid ⟨k1, k2, p0, q0, hbx.drew⟩
            clear HC0 hm2A hm2B hq1 hq2 n1 n2 hnm1 hnm2 k1 k2 p0 q0
            go_wp2_with (fail)
            refine wp_region_held_drew (S := fun w' => (w'.cell? ⟨X, 1, none⟩ = some (.slice (some ⟨eb, eo, none⟩) N s.c) ∧ w'.cell? ⟨Y, 1, none⟩ = some (.slice (some ⟨fb, fo, none⟩) N t.c) ∧ w'.cell? ⟨eb, eo + j, none⟩ = some (.slice d.a DL d.c) ∧ w'.cell? ⟨fb, fo + j, none⟩ = some (.slice f.a FL f.c) ∧ Below V.heap.size V w')) (by kernel_rfl) ?_ (fun hHeld => ?_)
            · exact HSt.out
            refine wpAnyH_take (i := 0) (v := ?_) (atL atZ) (by kernel_rfl) (by kernel_rfl) (by kernel_rfl) (fun _ _ _ h => h) (Or.inl ⟨by rfl, ?_⟩) (by assumption) ?_
            rotate_left
            · intro w hSw
              try dsimp only at hSw
              go_simp
              all_goals with_reducible rfl
            try simp only [Act.put, List.setIfInBounds_toArray, List.set_cons_zero, List.set_cons_succ]
            refine wpAnyH_take (i := 1) (v := ?_) (atL (atS atZ)) (by kernel_rfl) (by kernel_rfl) (by kernel_rfl) (fun _ _ _ h => h) (Or.inl ⟨by rfl, ?_⟩) (by assumption) ?_
            rotate_left
            · intro w hSw
              try dsimp only at hSw
              go_simp
              all_goals with_reducible rfl
            try simp only [Act.put, List.setIfInBounds_toArray, List.set_cons_zero, List.set_cons_succ]
            refine wpAnyH_take (i := 2) (v := ?_) (atL (atS (atS atZ))) (by kernel_rfl) (by kernel_rfl) (by kernel_rfl) (fun _ _ _ h => h) (Or.inl ⟨by rfl, ?_⟩) (by assumption) ?_
            rotate_left
            · intro w hSw
              try dsimp only at hSw
              go_simp
              all_goals with_reducible rfl
            try simp only [Act.put, List.setIfInBounds_toArray, List.set_cons_zero, List.set_cons_succ]
            refine wpAnyH_take (i := 3) (v := ?_) (atL (atS (atS (atS atZ)))) (by kernel_rfl) (by kernel_rfl) (by kernel_rfl) (fun _ _ _ h => h) (Or.inl ⟨by rfl, ?_⟩) (by assumption) ?_
            rotate_left
            · intro w hSw
              try dsimp only at hSw
              go_simp
              all_goals with_reducible rfl
            try simp only [Act.put, List.setIfInBounds_toArray, List.set_cons_zero, List.set_cons_succ]
            refine wpAnyH_take (i := 4) (v := ?_) (atL (atS (atS (atS (atS atZ))))) (by kernel_rfl) (by kernel_rfl) (by kernel_rfl) (fun _ _ _ h => h) (Or.inl ⟨by rfl, ?_⟩) (by assumption) ?_
            rotate_left
            · intro w hSw
              try dsimp only at hSw
              go_simp
              all_goals with_reducible rfl
            try simp only [Act.put, List.setIfInBounds_toArray, List.set_cons_zero, List.set_cons_succ]
            refine wpAnyH_take (i := 5) (v := ?_) (atL (atS (atS (atS (atS (atS atZ)))))) (by kernel_rfl) (by kernel_rfl) (by kernel_rfl) (fun _ _ _ h => h) (Or.inl ⟨by rfl, ?_⟩) (by assumption) ?_
            rotate_left
            · intro w hSw
              try dsimp only at hSw
              go_simp
              all_goals with_reducible rfl
            try simp only [Act.put, List.setIfInBounds_toArray, List.set_cons_zero, List.set_cons_succ]
            refine wpAnyH_take (i := 6) (v := ?_) (atL (atS (atS (atS (atS (atS (atS atZ))))))) (by kernel_rfl) (by kernel_rfl) (by kernel_rfl) (fun _ _ _ h => h) (Or.inl ⟨by rfl, ?_⟩) (by assumption) ?_
            rotate_left
            · intro w hSw
              try dsimp only at hSw
              go_simp
              all_goals with_reducible rfl
            try simp only [Act.put, List.setIfInBounds_toArray, List.set_cons_zero, List.set_cons_succ]
            refine wpAnyH_take (i := 7) (v := ?_) (atL (atS (atS (atS (atS (atS (atS (atS atZ)))))))) (by kernel_rfl) (by kernel_rfl) (by kernel_rfl) (fun _ _ _ h => h) (Or.inl ⟨by rfl, ?_⟩) (by assumption) ?_
            rotate_left
            · intro w hSw
              try dsimp only at hSw
              go_simp
              all_goals with_reducible rfl
            try simp only [Act.put, List.setIfInBounds_toArray, List.set_cons_zero, List.set_cons_succ]
            refine wpAnyH_take (i := 8) (v := ?_) (atL (atS (atS (atS (atS (atS (atS (atS (atS atZ))))))))) (by kernel_rfl) (by kernel_rfl) (by kernel_rfl) (fun _ _ _ h => h) (Or.inl ⟨by rfl, ?_⟩) (by assumption) ?_
            rotate_left
            · intro w hSw
              try dsimp only at hSw
              go_simp
              all_goals with_reducible rfl
            try simp only [Act.put, List.setIfInBounds_toArray, List.set_cons_zero, List.set_cons_succ]
            refine wpAnyH_take (i := 9) (v := ?_) (atL (atS (atS (atS (atS (atS (atS (atS (atS (atS atZ)))))))))) (by kernel_rfl) (by kernel_rfl) (by kernel_rfl) (fun _ _ _ h => h) (Or.inl ⟨by rfl, ?_⟩) (by assumption) ?_
            rotate_left
            · intro w hSw
              try dsimp only at hSw
              go_simp
              all_goals with_reducible rfl
            try simp only [Act.put, List.setIfInBounds_toArray, List.set_cons_zero, List.set_cons_succ]
            refine wpAnyH_ready (rs := [10]) (by kernel_rfl) (by simp) ?_
            refine AllReadyH.cons (atL (atS (atS (atS (atS (atS (atS (atS (atS (atS (atS atZ))))))))))) (fun K hK => ?_) AllReadyH.nil
            go_simp
            go_at_call 46
            (with_reducible refine (HC.out _ hHeld.2.2.2.2).mono ?_)
            rintro e V1 ⟨rfl, hV1⟩
            have HV1 := Lib.hid (hHeld.2.2.2.2.trans (hV1.mono hHeld.2.2.2.2.size))
            have HS1 : Hid (V1.cell? ⟨X, 1, none⟩ = some (.slice (some ⟨eb, eo, none⟩) N s.c) ∧ V1.cell? ⟨Y, 1, none⟩ = some (.slice (some ⟨fb, fo, none⟩) N t.c) ∧ V1.cell? ⟨eb, eo + j, none⟩ = some (.slice d.a DL d.c) ∧ V1.cell? ⟨fb, fo + j, none⟩ = some (.slice f.a FL f.c) ∧ Below V.heap.size V V1) := Lib.hid ⟨cell_up hV1 hHeld.1, cell_up hV1 hHeld.2.1, cell_up hV1 hHeld.2.2.1, cell_up hV1 hHeld.2.2.2.1, HV1.out⟩
            clear hV1
            dsimp only
            refine hK.out _ _ ?_ (fun hHeld => ?_)
            · exact HS1.out
            clear hK K
            try simp only [Act.put, List.setIfInBounds_toArray, List.set_cons_zero, List.set_cons_succ]
            refine wpAnyH_take (i := 11) (v := ?_) (atL (atS (atS (atS (atS (atS (atS (atS (atS (atS (atS (atS atZ)))))))))))) (by kernel_rfl) (by kernel_rfl) (by kernel_rfl) (fun _ _ _ h => h) (Or.inl ⟨by rfl, ?_⟩) (by assumption) ?_
            rotate_left
            · intro w hSw
              try dsimp only at hSw
              go_simp
              all_goals with_reducible rfl
            try simp only [Act.put, List.setIfInBounds_toArray, List.set_cons_zero, List.set_cons_succ]
            refine wpAnyH_done (by kernel_rfl) ?_ _
            cases SS
            · have hF := Lib.hid (hne2.out (of_decide_eq_false hSS.out))
              go_wp2_with (fail)
              exact bodyPost_ret (v := .bool false) (by simp [results, Try.results22, go_sem]; try first | rfl | assumption | omega) rfl ⟨by rw [hF.out], hbV.trans (HV1.out.mono hbV.size)⟩
            · have hE := Lib.hid (of_decide_eq_true hSS.out)
              go_wp2_with (fail)
              exact ⟨⟨j + 1, by omega, by simp, Lib.hid (by rw [hmore2.out.1, hmore2.out.2, HQ.out, hE.out]), HV1.out⟩, by simp [intOf]; omega⟩
          · obtain rfl : j = N := by omega
            have hjI : ¬ (j : Int) < (j : Int) := by omega
            have hsp : Hid (s.p = t.p) := Lib.hid (Prod.ext (by rw [show s.p.1 = s.n from rfl, show t.p.1 = t.n from rfl, HSN.out, HTN.out]) (by
              have h1 := HQ.out
              rw [List.take_of_length_le (by rw [HN.out]; exact Nat.le_refl _), List.take_of_length_le (by rw [HK.out]; exact Nat.le_refl _)] at h1
              exact h1))
            go_wp2_with (fail)
            exact ⟨⟨k + 1, by omega, by simp, Lib.hid (by rw [hmore.out.1, hmore.out.2, HR.out, hsp.out]), HW5.out.trans (hbx.mono HW5.out.size)⟩, by simp [intOf]; omega⟩
      · obtain rfl : k = L := by omega
        have hT : Hid (R = true) := Lib.hid (by
          rw [← hR.out]
          refine decide_eq_true ?_
          have := HR.out
          rwa [List.take_of_length_le (by rw [HL.out]; exact Nat.le_refl _), List.take_of_length_le (by rw [HM.out]; exact Nat.le_refl _)] at this)
        go_wp2_with (fail)
        exact bodyPost_ret (v := .bool true) (by simp [results, Try.results22, go_sem]; try first | rfl | assumption | omega) rfl ⟨by rw [hT.out], hbw⟩
  · have hF := Lib.hid (Hlen.out hLM)
    have hne : ((L : Int) == (M : Int)) = false := by rw [beq_eq_false_iff_ne]; omega
    go_enter Try.func22, Try.ntmps22
    go_wp2_with (fail)
    all_goals first
      | exact bodyPost_ret (v := .bool false) (by simp [results, Try.results22, go_sem]; try first | rfl | assumption | omega) rfl ⟨by rw [hF.out], hb2⟩
      | (exfalso; omega)
end Go.Proofs.Yteepcedokbjpdaa

namespace Go.Proofs.Yteepcedokbjpdaa
end Go.Proofs.Yteepcedokbjpdaa

