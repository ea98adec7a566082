/- Layer 7: the reference's long and Check. -/
import Derived.Test.YtoaabfdilhbajaaYe
namespace Go.Proofs.Ytoaabfdilhbajaa
open Go.RowKit Go.Shelf

attribute [local go_sem] Oper.semAt_some

set_option maxRecDepth 100000 in
set_option maxHeartbeats 4000000 in
theorem refLong_any (rs : List RlD) (a : Option Addr) (cap : Nat) (w : World) (hl : Rls w a cap rs) :
    Calls Try.prog 23 #[.agg #[.slice a rs.length cap]] w fun r w' => r = .returned (.bool (longG rs)) ∧ Below w.heap.size w w' := by
  have hlm : rs.length ≤ cap ∧ cap ≤ 9223372036854775807 := ⟨hl.le, hl.max⟩
  have hA0 := Blk.new w 24 #[.slice a rs.length cap]
  have hb0 : Below w.heap.size w (w.alloc (.cells #[.slice a rs.length cap] 24)) := (Below.refl _ w).alloc (Nat.le_refl _) _
  unfold longG
  obtain ⟨L, HL⟩ : ∃ L, Hid (rs.length = L) := ⟨_, Lib.hid rfl⟩
  rw [HL.out] at hlm hA0 hb0 ⊢
  obtain ⟨R, hR⟩ : ∃ R, Hid (rs.any longR = R) := ⟨_, Lib.hid rfl⟩
  rw [hR.out]
  obtain ⟨G, hG⟩ : ∃ G, Hid ((decide (60 < L) || R) = G) := ⟨_, Lib.hid rfl⟩
  rw [hG.out]
  have HGT : Hid (R = true → G = true) := Lib.hid (fun h => by rw [← hG.out, h]; exact Bool.or_true _)
  have x0 := hA0.cell 0
  have xl := hA0.lt
  simp only [List.getElem?_cons_zero] at x0
  go_enter Try.func23, Try.ntmps23
  go_wp2_with (fail)
  generalize hW : World.alloc w _ = W at x0 xl hA0 hb0 ⊢
  clear hW hA0
  go_loopw [10] (fun iv wr => ∃ k : Nat, k ≤ L ∧ iv = .int .i64 (k : Int) ∧ Hid (R = (rs.drop k).any longR) ∧ Below W.heap.size W wr) (fun iv _ => L - (intOf iv).toNat)
  case atStart => exact ⟨0, Nat.zero_le _, rfl, Lib.hid hR.out.symm, Below.refl _ _⟩
  case round =>
    obtain ⟨k, hk, rfl, HR, hbr⟩ := hrel
    have hbw := hb0.trans (hbr.mono hb0.size)
    by_cases hlt : k < L
    · have hkI : (k : Int) < (L : Int) := by omega
      have hkI0 : (0 : Int) ≤ (k : Int) := by omega
      have hkl : k < rs.length := by rw [HL.out]; exact hlt
      obtain ⟨b, off, rfl⟩ := hl.at_ k hkl
      obtain ⟨c0, c1⟩ := (hl.grown hbw).cell b off rfl k hkl
      have hdr : Hid (rs.drop k = rs[k] :: rs.drop (k + 1)) := Lib.hid (List.drop_eq_getElem_cons hkl)
      have hm : rs[k] ∈ rs := List.getElem_mem hkl
      obtain ⟨e, he⟩ : ∃ v, Hid (rs[k] = v) := ⟨_, Lib.hid rfl⟩
      rw [he.out] at c0 c1 hm
      have hbl := World.block_lt_of_cell? wr _ c0
      have hal := Lib.hid (hl.alts e hm)
      have hB0 := Blk.new wr 40 #[.string e.n, .slice e.a e.ds.length e.c]
      have hb1 : Below wr.heap.size wr (wr.alloc (.cells #[.string e.n, .slice e.a e.ds.length e.c] 40)) := (Below.refl _ wr).alloc (Nat.le_refl _) _
      have hem : e.ds.length ≤ e.c ∧ e.c ≤ 9223372036854775807 := ⟨by have := hal.out.row.le; rw [List.length_map] at this; exact this, hal.out.row.max⟩
      obtain ⟨M, HM⟩ : ∃ M, Hid (e.ds.length = M) := ⟨_, Lib.hid rfl⟩
      rw [HM.out] at hB0 hb1 c1 hem
      have y0 := hB0.cell 0
      have y1 := hB0.cell 1
      have yl := hB0.lt
      simp only [List.getElem?_cons_zero, List.getElem?_cons_succ] at y0 y1
      have HRs : Hid (R = (longR e || (rs.drop (k + 1)).any longR)) := Lib.hid (by rw [HR.out, hdr.out, List.any_cons, he.out])
      have HmR : Hid (longR e = (decide (30 < M) || e.ds.any longA)) := Lib.hid (by unfold longR; rw [HM.out])
      clear hm hB0
      by_cases hM : 30 < M
      · have hF : Hid (G = true) := Lib.hid (HGT.out (by rw [HRs.out, HmR.out, decide_eq_true hM]; rfl))
        have hMI : (30 : Int) < (M : Int) := by omega
        clear hM
        go_wp2_with (fail)
        exact bodyPost_ret (v := .bool true) (by simp [results, Try.results23, go_sem]; try first | rfl | assumption | omega) rfl ⟨by rw [hF.out], hbw.trans (hb1.mono hbw.size)⟩
      · have hMI : ¬ (30 : Int) < (M : Int) := by omega
        obtain ⟨Q, hQ⟩ : ∃ Q, Hid (e.ds.any longA = Q) := ⟨_, Lib.hid rfl⟩
        have HRq : Hid (R = (Q || (rs.drop (k + 1)).any longR)) := Lib.hid (by rw [HRs.out, HmR.out, hQ.out, decide_eq_false hM]; rfl)
        go_wp2_with (fail)
        generalize hV : World.alloc wr _ = V at y0 y1 yl hb1 ⊢
        clear hV
        go_loopw [21] (fun iv wr => ∃ j : Nat, j ≤ M ∧ iv = .int .i64 (j : Int) ∧ Hid (Q = (e.ds.drop j).any longA) ∧ wr = V) (fun iv _ => M - (intOf iv).toNat)
        case atStart => exact ⟨0, Nat.zero_le _, rfl, Lib.hid hQ.out.symm, rfl⟩
        case round =>
          obtain ⟨j, hj, rfl, HQ, hwx⟩ := hrel
          have HWX := Lib.hid hwx
          clear hwx
          have hbV : Below w.heap.size w wr := by rw [HWX.out]; exact hbw.trans (hb1.mono hbw.size)
          by_cases hjt : j < M
          · have hjI : (j : Int) < (M : Int) := by omega
            have hjI0 : (0 : Int) ≤ (j : Int) := by omega
            have hjl : j < e.ds.length := by rw [HM.out]; exact hjt
            obtain ⟨eb, eo, hea⟩ := hal.out.row.at_ j (by rw [List.length_map]; exact hjl)
            have c2 := (hal.out.grown hbV).row.cell eb eo hea j (by rw [List.length_map]; exact hjl)
            rw [List.getElem_map] at c2
            have hd2 : Hid (e.ds.drop j = e.ds[j] :: e.ds.drop (j + 1)) := Lib.hid (List.drop_eq_getElem_cons hjl)
            obtain ⟨d, hd⟩ : ∃ v, Hid (e.ds[j] = v) := ⟨_, Lib.hid rfl⟩
            rw [hd.out] at c2
            have hbl2 := World.block_lt_of_cell? _ _ c2
            rw [show d.v = .slice d.a d.l.length d.c from rfl] at c2
            have HlA : Hid (longA d = decide (30 < d.l.length)) := Lib.hid rfl
            obtain ⟨N, HN⟩ : ∃ N, Hid (d.l.length = N) := ⟨_, Lib.hid rfl⟩
            rw [HN.out] at c2 HlA
            rw [hea]
            by_cases hN : 30 < N
            · have hNI : (30 : Int) < (N : Int) := by omega
              have hF : Hid (G = true) := Lib.hid (HGT.out (by rw [HRq.out, HQ.out, hd2.out, List.any_cons, hd.out, HlA.out, decide_eq_true hN]; rfl))
              clear hN
              go_wp2_with (fail)
              exact bodyPost_ret (v := .bool true) (by simp [results, Try.results23, go_sem]; try first | rfl | assumption | omega) rfl ⟨by rw [hF.out], hbV⟩
            · have hNI : ¬ (30 : Int) < (N : Int) := by omega
              have hS : Hid (longA d = false) := Lib.hid (by rw [HlA.out]; exact decide_eq_false hN)
              clear hN
              go_wp2_with (fail)
              exact ⟨⟨j + 1, by omega, by simp, Lib.hid (by rw [HQ.out, hd2.out, List.any_cons, hd.out, hS.out, Bool.false_or]), HWX.out⟩, by simp [intOf]; omega⟩
          · obtain rfl : j = M := by omega
            have hjI : ¬ (j : Int) < (j : Int) := by omega
            have hT : Hid (R = (rs.drop (k + 1)).any longR) := Lib.hid (by rw [HRq.out, HQ.out, List.drop_eq_nil_of_le (by rw [HM.out]; exact Nat.le_refl _)]; rfl)
            go_wp2_with (fail)
            exact ⟨⟨k + 1, by omega, by simp, hT, by rw [HWX.out]; exact hbr.trans (hb1.mono hbr.size)⟩, by simp [intOf]; omega⟩
    · obtain rfl : k = L := by omega
      have hkI : ¬ (k : Int) < (k : Int) := by omega
      have hT : Hid (R = false) := Lib.hid (by rw [HR.out, List.drop_eq_nil_of_le (by rw [HL.out]; exact Nat.le_refl _)]; rfl)
      have x1 := cell_up hbr x0
      by_cases h0 : 60 < k
      · have h0I : (60 : Int) < (k : Int) := by omega
        have hF : Hid (G = true) := Lib.hid (by rw [← hG.out, decide_eq_true h0]; rfl)
        go_wp2_with (fail)
        exact bodyPost_ret (v := .bool true) (by simp [results, Try.results23, go_sem]; try first | rfl | assumption | omega) rfl ⟨by rw [hF.out], hbw⟩
      · have h0I : ¬ (60 : Int) < (k : Int) := by omega
        have hF : Hid (G = false) := Lib.hid (by rw [← hG.out, hT.out, decide_eq_false h0]; rfl)
        go_wp2_with (fail)
        exact bodyPost_ret (v := .bool false) (by simp [results, Try.results23, go_sem]; try first | rfl | assumption | omega) rfl ⟨by rw [hF.out], hbw⟩

set_option maxRecDepth 100000 in
set_option maxHeartbeats 1000000 in
theorem refGCheck_any (rs : List RlD) (a : Option Addr) (cap : Nat) (w : World) (hl : Rls w a cap rs) :
    Calls Try.prog 13 #[.agg #[.slice a rs.length cap]] w fun r w' => r = .returned (.int .i64 (chkG rs)) ∧ Below w.heap.size w w' := by
  have hA0 := Blk.new w 24 #[.slice a rs.length cap]
  have hb0 : Below w.heap.size w (w.alloc (.cells #[.slice a rs.length cap] 24)) := (Below.refl _ w).alloc (Nat.le_refl _) _
  have Hc1 := Lib.hid (refMay_any rs a cap _ (hl.grown hb0))
  have Hc2 := Lib.hid (fun (w2 : World) (h : Below w.heap.size w w2) => refLong_any rs a cap w2 (hl.grown h))
  unfold chkG
  obtain ⟨M, hM⟩ : ∃ M, Hid (mayG rs = M) := ⟨_, Lib.hid rfl⟩
  obtain ⟨G, hG⟩ : ∃ G, Hid (longG rs = G) := ⟨_, Lib.hid rfl⟩
  rw [hM.out] at Hc1 ⊢
  rw [hG.out] at Hc2 ⊢
  obtain ⟨L, HL⟩ : ∃ L, Hid (rs.length = L) := ⟨_, Lib.hid rfl⟩
  rw [HL.out] at hA0 hb0 Hc1 Hc2 ⊢
  have x0 := hA0.cell 0
  have xl := hA0.lt
  simp only [List.getElem?_cons_zero] at x0
  cases M
  · go_enter Try.func13, Try.ntmps13
    go_wp2_with (fail)
    refine Hc1.out.mono ?_
    rintro r w1 ⟨rfl, hb1⟩
    go_wp2_with (fail)
    exact bodyPost_ret (v := .int .i64 1) (by simp [results, Try.results13, go_sem]; try first | rfl | assumption | omega) rfl ⟨rfl, hb0.trans (hb1.mono hb0.size)⟩
  · have HG : Hid ((if G = true then (2 : Int) else 0) = if G then 2 else 0) := Lib.hid rfl
    go_enter Try.func13, Try.ntmps13
    go_wp2_with (fail)
    refine Hc1.out.mono ?_
    rintro r w1 ⟨rfl, hb1⟩
    have x1 := cell_up hb1 x0
    have hb2 := hb0.trans (hb1.mono hb0.size)
    have Hd := Lib.hid (Hc2.out w1 hb2)
    go_wp2_with (fail)
    refine Hd.out.mono ?_
    rintro r w3 ⟨rfl, hb3⟩
    have hb4 := hb2.trans (hb3.mono hb2.size)
    cases G
    · go_wp2_with (fail)
      exact bodyPost_ret (v := .int .i64 0) (by simp [results, Try.results13, go_sem]; try first | rfl | assumption | omega) rfl ⟨rfl, hb4⟩
    · go_wp2_with (fail)
      exact bodyPost_ret (v := .int .i64 2) (by simp [results, Try.results13, go_sem]; try first | rfl | assumption | omega) rfl ⟨rfl, hb4⟩
end Go.Proofs.Ytoaabfdilhbajaa
