/- Layer 7: the reference's Check. -/
import Derived.Test.YtoaabfdilhbajaaYd
import Derived.Test.YtoaabfdilhbajaaXn
namespace Go.Proofs.Ytoaabfdilhbajaa
open Go.RowKit Go.Shelf

attribute [local go_sem] Oper.semAt_some

set_option maxRecDepth 100000 in
set_option maxHeartbeats 4000000 in
theorem refMay_any (rs : List RlD) (a : Option Addr) (cap : Nat) (w : World) (hl : Rls w a cap rs) :
    Calls Try.prog 22 #[.agg #[.slice a rs.length cap]] w fun r w' => r = .returned (.bool (mayG rs)) ∧ Below w.heap.size w w' := by
  have hlm : rs.length ≤ cap ∧ cap ≤ 9223372036854775807 := ⟨hl.le, hl.max⟩
  have hA0 := Blk.new w 24 #[.slice a rs.length cap]
  have hb0 : Below w.heap.size w (w.alloc (.cells #[.slice a rs.length cap] 24)) := (Below.refl _ w).alloc (Nat.le_refl _) _
  have hs0 : w.heap.size < (w.alloc (.cells #[.slice a rs.length cap] 24)).heap.size := by simp [go_sem]
  unfold mayG
  obtain ⟨L, HL⟩ : ∃ L, Hid (rs.length = L) := ⟨_, Lib.hid rfl⟩
  rw [HL.out] at hlm hA0 hb0 hs0 ⊢
  obtain ⟨R, hR⟩ : ∃ R, Hid (rs.all mayR = R) := ⟨_, Lib.hid rfl⟩
  rw [hR.out]
  obtain ⟨G, hG⟩ : ∃ G, Hid ((R && decide (0 < L)) = G) := ⟨_, Lib.hid rfl⟩
  rw [hG.out]
  have x0 := hA0.cell 0
  have xl := hA0.lt
  simp only [List.getElem?_cons_zero] at x0
  go_enter Try.func22, Try.ntmps22
  go_wp2_with (fail)
  generalize hW : World.alloc w _ = W at x0 xl hA0 hb0 hs0 ⊢
  have HW := Lib.hid hW
  clear hW hA0
  go_loopw [12] (fun iv wr => ∃ k : Nat, k ≤ L ∧ iv = .int .i64 (k : Int) ∧ Hid (R = (rs.drop k).all mayR) ∧ Below W.heap.size W wr) (fun iv _ => L - (intOf iv).toNat)
  case atStart => exact ⟨0, Nat.zero_le _, rfl, Lib.hid hR.out.symm, Below.refl _ _⟩
  case round =>
    obtain ⟨k, hk, rfl, HR, hbr⟩ := hrel
    have hbw := hb0.trans (hbr.mono hb0.size)
    by_cases hlt : k < L
    · have hkI : (k : Int) < (L : Int) := by omega
      have hkI0 : (0 : Int) ≤ (k : Int) := by omega
      have hkl : k < rs.length := by rw [HL.out]; exact hlt
      obtain ⟨b, off, rfl⟩ := hl.at_ k hkl
      obtain ⟨c0, c1⟩ := (hl.grown hbw).cell b off rfl k hkl
      have hdr : Hid (rs.drop k = rs[k] :: rs.drop (k + 1)) := Lib.hid (List.drop_eq_getElem_cons hkl)
      have hm : rs[k] ∈ rs := List.getElem_mem hkl
      obtain ⟨e, he⟩ : ∃ v, Hid (rs[k] = v) := ⟨_, Lib.hid rfl⟩
      rw [he.out] at c0 c1 hm
      have hbl := World.block_lt_of_cell? wr _ c0
      have hal := Lib.hid (hl.alts e hm)
      have hB0 := Blk.new wr 40 #[.string e.n, .slice e.a e.ds.length e.c]
      have hb1 : Below wr.heap.size wr (wr.alloc (.cells #[.string e.n, .slice e.a e.ds.length e.c] 40)) := (Below.refl _ wr).alloc (Nat.le_refl _) _
      have hem : e.ds.length ≤ e.c ∧ e.c ≤ 9223372036854775807 := ⟨by have := hal.out.row.le; rw [List.length_map] at this; exact this, hal.out.row.max⟩
      obtain ⟨M, HM⟩ : ∃ M, Hid (e.ds.length = M) := ⟨_, Lib.hid rfl⟩
      rw [HM.out] at hB0 hb1 c1 hem
      have y0 := hB0.cell 0
      have y1 := hB0.cell 1
      have yl := hB0.lt
      simp only [List.getElem?_cons_zero, List.getElem?_cons_succ] at y0 y1
      have HRs : Hid (R = (mayR e && (rs.drop (k + 1)).all mayR)) := Lib.hid (by rw [HR.out, hdr.out, List.all_cons, he.out])
      have HmR : Hid (mayR e = (nameB e.n && decide (M ≠ 0) && e.ds.all (fun d => d.l.all nameB))) := Lib.hid (by unfold mayR; rw [HM.out])
      clear hm hB0
      have Hc := Lib.hid (refIsName_any e.n (wr.alloc (.cells #[.string e.n, .slice e.a M e.c] 40)))
      obtain ⟨S, hS⟩ : ∃ S, Hid (nameB e.n = S) := ⟨_, Lib.hid rfl⟩
      rw [hS.out] at Hc HmR
      cases S
      · have hF : Hid (R = false) := Lib.hid (by rw [HRs.out, HmR.out]; rfl)
        go_wp2_with (fail)
        refine Hc.out.mono ?_
        rintro r w3 ⟨rfl, hw3⟩
        subst w3
        go_wp2_with (fail)
        exact bodyPost_ret (v := .bool false) (by simp [results, Try.results22, go_sem]; try first | rfl | assumption | omega) rfl ⟨by rw [← hG.out, hF.out]; rfl, hbw.trans (hb1.mono hbw.size)⟩
      · by_cases hM : M = 0
        · have hF : Hid (R = false) := Lib.hid (by rw [HRs.out, HmR.out, hM]; rfl)
          have hMI : (M : Int) = 0 := by omega
          clear hM
          go_wp2_with (fail)
          refine Hc.out.mono ?_
          rintro r w3 ⟨rfl, hw3⟩
          subst w3
          go_wp2_with (fail)
          exact bodyPost_ret (v := .bool false) (by simp [results, Try.results22, go_sem]; try first | rfl | assumption | omega) rfl ⟨by rw [← hG.out, hF.out]; rfl, hbw.trans (hb1.mono hbw.size)⟩
        · have hMI : ¬ (M : Int) = 0 := by omega
          obtain ⟨Q, hQ⟩ : ∃ Q, Hid (e.ds.all (fun d => d.l.all nameB) = Q) := ⟨_, Lib.hid rfl⟩
          have HRq : Hid (R = (Q && (rs.drop (k + 1)).all mayR)) := Lib.hid (by rw [HRs.out, HmR.out, hQ.out, decide_eq_true hM]; rfl)
          go_wp2_with (fail)
          refine Hc.out.mono ?_
          rintro r w3 ⟨rfl, hw3⟩
          subst w3
          go_wp2_with (fail)
          generalize hV : World.alloc wr _ = V at y0 y1 yl hb1 ⊢
          clear hV Hc
          have hMB : ((M : Int) == 0) = false := by simpa using hMI
          simp only [hMB]
          clear hMB
          go_loopw [29] (fun iv wr => ∃ j : Nat, j ≤ M ∧ iv = .int .i64 (j : Int) ∧ Hid (Q = (e.ds.drop j).all (fun d => d.l.all nameB)) ∧ wr = V) (fun iv _ => M - (intOf iv).toNat)
          case atStart => exact ⟨0, Nat.zero_le _, rfl, Lib.hid hQ.out.symm, rfl⟩
          case round =>
            obtain ⟨j, hj, rfl, HQ, hwx⟩ := hrel
            have HWX := Lib.hid hwx
            clear hwx
            have hbV : Below w.heap.size w wr := by rw [HWX.out]; exact hbw.trans (hb1.mono hbw.size)
            by_cases hjt : j < M
            · have hjI : (j : Int) < (M : Int) := by omega
              have hjI0 : (0 : Int) ≤ (j : Int) := by omega
              have hjl : j < e.ds.length := by rw [HM.out]; exact hjt
              obtain ⟨eb, eo, hea⟩ := hal.out.row.at_ j (by rw [List.length_map]; exact hjl)
              have c2 := (hal.out.grown hbV).row.cell eb eo hea j (by rw [List.length_map]; exact hjl)
              rw [List.getElem_map] at c2
              have hd2 : Hid (e.ds.drop j = e.ds[j] :: e.ds.drop (j + 1)) := Lib.hid (List.drop_eq_getElem_cons hjl)
              have hm2 : e.ds[j] ∈ e.ds := List.getElem_mem hjl
              obtain ⟨d, hd⟩ : ∃ v, Hid (e.ds[j] = v) := ⟨_, Lib.hid rfl⟩
              rw [hd.out] at c2 hm2
              have hbl2 := World.block_lt_of_cell? _ _ c2
              have hnm := Lib.hid (hal.out.nms d hm2)
              have hnl : d.l.length ≤ d.c ∧ d.c ≤ 9223372036854775807 := ⟨by have := hnm.out.le; rw [List.length_map] at this; exact this, hnm.out.max⟩
              obtain ⟨U, hU⟩ : ∃ U, Hid (d.l.all nameB = U) := ⟨_, Lib.hid rfl⟩
              have HQU : Hid (Q = (U && (e.ds.drop (j + 1)).all (fun d => d.l.all nameB))) := Lib.hid (by rw [HQ.out, hd2.out, List.all_cons, hd.out, hU.out])
              rw [show d.v = .slice d.a d.l.length d.c from rfl] at c2
              obtain ⟨N, HN⟩ : ∃ N, Hid (d.l.length = N) := ⟨_, Lib.hid rfl⟩
              rw [HN.out] at hnl c2
              clear hm2
              rw [hea]
              go_wp2_with (fail)
              have HW2 := Lib.hid hbV
              obtain ⟨Z, hZ⟩ : ∃ Z : World, Hid (wr = Z) := ⟨_, Lib.hid rfl⟩
              have HZV : Hid (Z = V) := Lib.hid (by rw [← hZ.out]; exact HWX.out)
              rw [hZ.out] at HW2 c2 hbl2 ⊢
              clear HWX hbV
              go_loopw [35] (fun iv wr => ∃ i : Nat, i ≤ N ∧ iv = .int .i64 (i : Int) ∧ Hid (U = (d.l.drop i).all nameB) ∧ wr = Z) (fun iv _ => N - (intOf iv).toNat)
              case atStart => exact ⟨0, Nat.zero_le _, rfl, Lib.hid hU.out.symm, rfl⟩
              case round =>
                obtain ⟨i, hi, rfl, HU, hwz⟩ := hrel
                have HWZ := Lib.hid hwz
                clear hwz
                have hbZ : Below w.heap.size w wr := by rw [HWZ.out]; exact HW2.out
                by_cases hit : i < N
                · have hiI : (i : Int) < (N : Int) := by omega
                  have hiI0 : (0 : Int) ≤ (i : Int) := by omega
                  have hil : i < d.l.length := by rw [HN.out]; exact hit
                  obtain ⟨nb, no, hna⟩ := hnm.out.at_ i (by rw [List.length_map]; exact hil)
                  have c3 := (hnm.out.grown hbZ).cell nb no hna i (by rw [List.length_map]; exact hil)
                  rw [List.getElem_map] at c3
                  have hd3 : Hid (d.l.drop i = d.l[i] :: d.l.drop (i + 1)) := Lib.hid (List.drop_eq_getElem_cons hil)
                  obtain ⟨s, hs⟩ : ∃ v, Hid (d.l[i] = v) := ⟨_, Lib.hid rfl⟩
                  rw [hs.out] at c3
                  have hbl3 := World.block_lt_of_cell? _ _ c3
                  have hc3 := refIsName_any s wr
                  obtain ⟨S3, hS3⟩ : ∃ S, Hid (nameB s = S) := ⟨_, Lib.hid rfl⟩
                  rw [hS3.out] at hc3
                  have Hc3 := Lib.hid hc3
                  clear hc3
                  rw [hna]
                  go_wp2_with (fail)
                  refine Hc3.out.mono ?_
                  rintro r w3 ⟨rfl, hw3⟩
                  obtain rfl : wr = w3 := hw3.symm
                  cases S3
                  · have hF : Hid (R = false) := Lib.hid (by rw [HRq.out, HQU.out, HU.out, hd3.out, List.all_cons, hs.out, hS3.out]; rfl)
                    go_wp2_with (fail)
                    exact bodyPost_ret (v := .bool false) (by simp [results, Try.results22, go_sem]; try first | rfl | assumption | omega) rfl ⟨by rw [← hG.out, hF.out]; rfl, hbZ⟩
                  · go_wp2_with (fail)
                    exact ⟨⟨i + 1, by omega, by simp, Lib.hid (by rw [HU.out, hd3.out, List.all_cons, hs.out, hS3.out, Bool.true_and]), HWZ.out⟩, by simp [intOf]; omega⟩
                · obtain rfl : i = N := by omega
                  have hiI : ¬ (i : Int) < (i : Int) := by omega
                  have hT3 : Hid (Q = (e.ds.drop (j + 1)).all (fun d => d.l.all nameB)) := Lib.hid (by rw [HQU.out, HU.out, List.drop_eq_nil_of_le (by rw [HN.out]; exact Nat.le_refl _)]; rfl)
                  go_wp2_with (fail)
                  exact ⟨⟨j + 1, by omega, by simp, hT3, by rw [HWZ.out]; exact HZV.out⟩, by simp [intOf]; omega⟩
            · obtain rfl : j = M := by omega
              have hjI : ¬ (j : Int) < (j : Int) := by omega
              have hT : Hid (R = (rs.drop (k + 1)).all mayR) := Lib.hid (by rw [HRq.out, HQ.out, List.drop_eq_nil_of_le (by rw [HM.out]; exact Nat.le_refl _)]; rfl)
              go_wp2_with (fail)
              exact ⟨⟨k + 1, by omega, by simp, hT, by rw [HWX.out]; exact hbr.trans (hb1.mono hbr.size)⟩, by simp [intOf]; omega⟩
    · obtain rfl : k = L := by omega
      have hkI : ¬ (k : Int) < (k : Int) := by omega
      have hT : Hid (R = true) := Lib.hid (by rw [HR.out, List.drop_eq_nil_of_le (by rw [HL.out]; exact Nat.le_refl _)]; rfl)
      have x1 := cell_up hbr x0
      by_cases h0 : 0 < k
      · have h0I : (0 : Int) < (k : Int) := by omega
        have hF : Hid (G = true) := Lib.hid (by rw [← hG.out, hT.out, decide_eq_true h0]; rfl)
        go_wp2_with (fail)
        exact bodyPost_ret (v := .bool true) (by simp [results, Try.results22, go_sem]; try first | rfl | assumption | omega) rfl ⟨by rw [hF.out], hbw⟩
      · have h0I : ¬ (0 : Int) < (k : Int) := by omega
        have hF : Hid (G = false) := Lib.hid (by rw [← hG.out, decide_eq_false h0]; exact Bool.and_false _)
        go_wp2_with (fail)
        exact bodyPost_ret (v := .bool false) (by simp [results, Try.results22, go_sem]; try first | rfl | assumption | omega) rfl ⟨by rw [hF.out], hbw⟩

end Go.Proofs.Ytoaabfdilhbajaa
