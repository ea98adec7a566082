/- Texts joined: Dd. -/
import Derived.Test.YtngbfjimmdkfeaaJD1
set_option linter.unusedVariables false
set_option linter.unusedSimpArgs false
namespace Go.Proofs.Ytngbfjimmdkfeaa
open Go.RowKit Go.Shelf

attribute [local go_sem] Oper.semAt_some

set_option maxRecDepth 100000 in
set_option maxHeartbeats 4000000 in
theorem refDCheck_any (x : Df) (p : DfL) (w : World) (hx : DfAt w x p) :
    Calls Try.prog 12 #[.agg #[.slice p.ma x.ms.length p.mc, .slice p.aa x.ac.length p.ac]] w fun e w' => e = .returned (.int .i64 (if dfB x then 0 else 30)) ∧ Below w.heap.size w w' := by
  have h1 := hx.ms.le
  have h2 := hx.ms.max
  have h3 := hx.acc.le
  have h4 := hx.acc.max
  have hlen := hx.len
  rw [hlen] at h1
  have HX := Lib.hid hx
  have HLN := Lib.hid hlen
  clear hx hlen
  obtain ⟨R, hR⟩ : ∃ R, Hid (dfB x = R) := ⟨_, Lib.hid rfl⟩
  rw [hR.out]
  obtain ⟨E, hE⟩ : ∃ E, Hid ((if R = true then (0 : Int) else 30) = E) := ⟨_, Lib.hid rfl⟩
  rw [hE.out]
  obtain ⟨Q, hQ⟩ : ∃ Q, Hid (stsB x.ms.length x.ms x.ac = Q) := ⟨_, Lib.hid rfl⟩
  have HR : Hid (R = (decide (1 ≤ x.ms.length) && decide (x.ms.length ≤ 2000) && decide (x.ac.length = x.ms.length) && Q)) := Lib.hid (by rw [← hR.out, ← hQ.out]; rfl)
  obtain ⟨M, HM⟩ : ∃ M, Hid (x.ms.length = M) := ⟨_, Lib.hid rfl⟩
  obtain ⟨N, HN⟩ : ∃ N, Hid (x.ac.length = N) := ⟨_, Lib.hid rfl⟩
  rw [HM.out, HN.out] at HR
  rw [HM.out] at hQ h1 ⊢
  rw [HN.out] at h3 ⊢
  have hA0 := Blk.new w 25 #[.slice p.ma M p.mc, .slice p.aa N p.ac]
  have hb0 := up_one w (.cells #[.slice p.ma M p.mc, .slice p.aa N p.ac] 25)
  have x0 := hA0.cell 0
  have x1 := hA0.cell 1
  have xl := hA0.lt
  simp only [List.getElem?_cons_zero, List.getElem?_cons_succ] at x0 x1
  have HRF : Hid (R = false → E = 30) := Lib.hid (fun e => by rw [← hE.out, e]; rfl)
  have HRT : Hid (R = true → E = 0) := Lib.hid (fun e => by rw [← hE.out, e]; rfl)
  by_cases g1 : M < 1
  · have g1I : (M : Int) < 1 := by omega
    have HF : Hid (R = false) := Lib.hid (by rw [HR.out, decide_eq_false (by omega)]; rfl)
    clear g1
    go_enter Try.func12, Try.ntmps12
    go_wp2_with (fail)
    exact bodyPost_ret (v := .int .i64 30) (by simp [results, Try.results12, go_sem]; try first | rfl | assumption | omega) rfl ⟨by rw [HRF.out HF.out], hb0⟩
  have g1I : ¬ (M : Int) < 1 := by omega
  by_cases g2 : 2000 < M
  · have g2I : (2000 : Int) < (M : Int) := by omega
    have HF : Hid (R = false) := Lib.hid (by rw [HR.out, decide_eq_false (show ¬ M ≤ 2000 by omega)]; simp)
    clear g1 g2
    go_enter Try.func12, Try.ntmps12
    go_wp2_with (fail)
    exact bodyPost_ret (v := .int .i64 30) (by simp [results, Try.results12, go_sem]; try first | rfl | assumption | omega) rfl ⟨by rw [HRF.out HF.out], hb0⟩
  have g2I : ¬ (2000 : Int) < (M : Int) := by omega
  by_cases g3 : N = M
  case neg =>
    have g3b : ((N : Int) != (M : Int)) = true := by rw [bne_iff_ne]; omega
    have HF : Hid (R = false) := Lib.hid (by rw [HR.out, decide_eq_false g3]; simp)
    clear g1 g2 g3
    go_enter Try.func12, Try.ntmps12
    go_wp2_with (fail)
    exact bodyPost_ret (v := .int .i64 30) (by simp [results, Try.results12, go_sem]; try first | rfl | assumption | omega) rfl ⟨by rw [HRF.out HF.out], hb0⟩
  case pos =>
  have HRQ : Hid (R = Q) := Lib.hid (by rw [HR.out, decide_eq_true (by omega), decide_eq_true (by omega), decide_eq_true g3]; rfl)
  have g3b : ((N : Int) != (M : Int)) = false := by rw [bne_eq_false_iff_eq]; omega
  have HNM := Lib.hid g3
  have hNM1 : N ≤ M := by omega
  have hNM2 : M ≤ N := by omega
  clear g1 g2 g3 HR hR
  go_enter Try.func12, Try.ntmps12
  go_wp2_with (fail)
  generalize World.alloc w _ = W at x0 x1 xl hb0 hA0 ⊢
  go_loopw [25] (fun iv wr => ∃ k : Nat, k ≤ M ∧ iv = .int .i64 (k : Int) ∧ Hid (Q = stsB M (x.ms.drop k) (x.ac.drop k)) ∧ Below W.heap.size W wr) (fun iv _ => M - (intOf iv).toNat)
  case atStart => exact ⟨0, Nat.zero_le _, rfl, Lib.hid hQ.out.symm, Below.refl _ _⟩
  case round =>
    obtain ⟨k, hk, rfl, HK, hbr⟩ := hrel
    have hbw := hb0.trans (hbr.mono hb0.size)
    have y0 := cell_up hbr x0
    have y1 := cell_up hbr x1
    have yl := World.block_lt_of_cell? _ _ y0
    by_cases hlt : k < M
    · have hkI : (k : Int) < (M : Int) := by omega
      have hkN : (k : Int) < (N : Int) := by omega
      have hkI0 : (0 : Int) ≤ (k : Int) := by omega
      have hkm : k < x.ms.length := by rw [HM.out]; exact hlt
      have hkr : k < p.rs.length := by rw [HLN.out]; exact hkm
      have hka : k < x.ac.length := by rw [HN.out]; omega
      obtain ⟨b, off, hma⟩ := HX.out.ms.at_ k hkr
      obtain ⟨b2, off2, haa⟩ := HX.out.acc.at_ k hka
      have c0 := (HX.out.ms.grown hbw).cell b off hma k hkr
      have c1 := (HX.out.acc.grown hbw).cell b2 off2 haa k hka
      have HS := Lib.hid (stsB_step (n := M) hkm hka)
      have hgx : Hid (x.ms[k] = p.rs[k].l) := Lib.hid (by
        have := HX.out.eq
        simp only [← this, List.getElem_map])
      have hmem : p.rs[k] ∈ p.rs := List.getElem_mem hkr
      have hmv := (HX.out.ms.mvs _ hmem).grown hbw
      obtain ⟨d, hd⟩ : ∃ v, Hid (p.rs[k] = v) := ⟨_, Lib.hid rfl⟩
      obtain ⟨t, ht⟩ : ∃ v, Hid (x.ac[k] = v) := ⟨_, Lib.hid rfl⟩
      rw [hd.out] at c0 hmv hgx
      rw [ht.out] at c1 HS
      rw [hgx.out] at HS
      have bl0 := World.block_lt_of_cell? _ _ c0
      have bl1 := World.block_lt_of_cell? _ _ c1
      have hdl : d.l.length ≤ d.c ∧ d.c ≤ 9223372036854775807 := ⟨hmv.le, hmv.max⟩
      have Hmv := Lib.hid hmv
      obtain ⟨F, hF⟩ : ∃ F, Hid (ordM M none d.l = F) := ⟨_, Lib.hid rfl⟩
      rw [hF.out] at HS
      obtain ⟨DL, hDL⟩ : ∃ q, Hid (d.l.length = q) := ⟨_, Lib.hid rfl⟩
      rw [hDL.out] at c0 hdl
      have HKS : Hid (Q = (decide (-1 ≤ t) && F && stsB M (x.ms.drop (k + 1)) (x.ac.drop (k + 1)))) := Lib.hid (by rw [HK.out, HS.out])
      have Hma := Lib.hid hma
      have Haa := Lib.hid haa
      clear hmem hmv HS hgx hma haa
      by_cases gt : t < -1
      · have HF : Hid (R = false) := Lib.hid (by rw [HRQ.out, HKS.out, decide_eq_false (show ¬ -1 ≤ t by omega)]; rfl)
        rw [Haa.out] at y1
        go_wp2_with (fail)
        exact bodyPost_ret (v := .int .i64 30) (by simp [results, Try.results12, go_sem]; try first | rfl | assumption | omega) rfl ⟨by rw [HRF.out HF.out], hbw⟩
      · have HKF : Hid (Q = (F && stsB M (x.ms.drop (k + 1)) (x.ac.drop (k + 1)))) := Lib.hid (by rw [HKS.out, decide_eq_true (show -1 ≤ t by omega)]; rfl)
        rw [Hma.out] at y0
        rw [Haa.out] at y1
        go_wp2_with (fail)
        obtain ⟨V, hV⟩ : ∃ V : World, Hid (wr = V) := ⟨_, Lib.hid rfl⟩
        rw [hV.out] at hbw hbr y0 y1 yl c0 c1 bl0 bl1 Hmv ⊢
        go_loopw [40] (fun jv wr => ∃ j : Nat, j ≤ DL ∧ jv = .int .i64 (j : Int) ∧ Hid (F = ordM M (prevM d.l j) (d.l.drop j)) ∧ Below V.heap.size V wr) (fun jv _ => DL - (intOf jv).toNat)
        case atStart => exact ⟨0, Nat.zero_le _, rfl, Lib.hid hF.out.symm, Below.refl _ _⟩
        case round =>
          obtain ⟨j, hj, rfl, HJ, hbj⟩ := hrel
          have hbX := hbw.trans (hbj.mono hbw.size)
          have z0 := cell_up hbj y0
          have zl := World.block_lt_of_cell? _ _ z0
          have cc0 := cell_up hbj c0
          have ccl := World.block_lt_of_cell? _ _ cc0
          by_cases hjt : j < DL
          · have hjI : (j : Int) < (DL : Int) := by omega
            have hjI0 : (0 : Int) ≤ (j : Int) := by omega
            have hjl : j < d.l.length := by rw [hDL.out]; exact hjt
            obtain ⟨b3, off3, hda⟩ := Hmv.out.at_ j hjl
            obtain ⟨⟨e0, e1, e2⟩, d1, d2⟩ := (Hmv.out.grown hbj).cell b3 off3 hda j hjl
            have HS2 := Lib.hid (ordM_step (n := M) hjl)
            obtain ⟨m, hm⟩ : ∃ v, Hid (d.l[j] = v) := ⟨_, Lib.hid rfl⟩
            rw [hm.out] at e0 e1 e2 d1 d2 HS2
            have ebl := World.block_lt_of_cell? _ _ e0
            have Hda := Lib.hid hda
            rw [Hda.out] at cc0
            have hB := Blk.new wr 57 #[.int .u8 (m.lo : Int), .int .u8 (m.hi : Int), .int .i64 m.to]
            have hb1 := hbj.alloc hbj.size (.cells #[.int .u8 (m.lo : Int), .int .u8 (m.hi : Int), .int .i64 m.to] 57)
            have hbX1 := hbX.alloc hbX.size (.cells #[.int .u8 (m.lo : Int), .int .u8 (m.hi : Int), .int .i64 m.to] 57)
            have u0 := hB.cell 0
            have u1 := hB.cell 1
            have u2 := hB.cell 2
            have ul := hB.lt
            simp only [List.getElem?_cons_zero, List.getElem?_cons_succ] at u0 u1 u2
            have HK2 : Hid (F = (oneMv M m && folB (prevM d.l j) m && ordM M (prevM d.l (j + 1)) (d.l.drop (j + 1)))) := Lib.hid (by rw [HJ.out, HS2.out])
            have HO : Hid (oneMv M m = (decide (m.lo ≤ m.hi) && decide (0 ≤ m.to) && decide (m.to < (M : Int)))) := Lib.hid rfl
            have HFR : Hid (F = false → E = 30) := Lib.hid (fun e => HRF.out (by rw [HRQ.out, HKF.out, e]; rfl))
            clear HS2 hda
            rw [Hda.out]
            by_cases g1 : m.hi < m.lo
            · have g1I : (m.hi : Int) < (m.lo : Int) := by omega
              have HF : Hid (F = false) := Lib.hid (by rw [HK2.out, HO.out, decide_eq_false (by omega)]; rfl)
              clear g1
              go_wp2_with (fail)
              exact bodyPost_ret (v := .int .i64 30) (by simp [results, Try.results12, go_sem]; try first | rfl | assumption | omega) rfl ⟨by rw [HFR.out HF.out], hbX1⟩
            have g1I : ¬ (m.hi : Int) < (m.lo : Int) := by omega
            by_cases g2 : m.to < 0
            · have HF : Hid (F = false) := Lib.hid (by rw [HK2.out, HO.out, decide_eq_false (show ¬ 0 ≤ m.to by omega)]; simp)
              go_wp2_with (fail)
              exact bodyPost_ret (v := .int .i64 30) (by simp [results, Try.results12, go_sem]; try first | rfl | assumption | omega) rfl ⟨by rw [HFR.out HF.out], hbX1⟩
            by_cases g3 : (M : Int) ≤ m.to
            · have HF : Hid (F = false) := Lib.hid (by rw [HK2.out, HO.out, decide_eq_false (show ¬ m.to < (M : Int) by omega)]; simp)
              go_wp2_with (fail)
              exact bodyPost_ret (v := .int .i64 30) (by simp [results, Try.results12, go_sem]; try first | rfl | assumption | omega) rfl ⟨by rw [HFR.out HF.out], hbX1⟩
            have HO2 : Hid (oneMv M m = true) := Lib.hid (by rw [HO.out, decide_eq_true (show m.lo ≤ m.hi by omega), decide_eq_true (show 0 ≤ m.to by omega), decide_eq_true (show m.to < (M : Int) by omega)]; rfl)
            clear g1
            by_cases hk0 : j = 0
            · have hp : prevM d.l j = none := by rw [hk0]; rfl
              have HN : Hid (F = ordM M (prevM d.l (j + 1)) (d.l.drop (j + 1))) := Lib.hid (by rw [HK2.out, HO2.out, hp]; rfl)
              have hk0b : ((j : Int) == 0) = true := by rw [beq_iff_eq]; omega
              clear hp hk0
              go_wp2_with (fail)
              exact ⟨⟨j + 1, by omega, by simp, HN, hb1⟩, by simp [intOf]; omega⟩
            · have hk0b : ((j : Int) == 0) = false := by rw [beq_eq_false_iff_ne]; omega
              have hj1 : j - 1 < d.l.length := by omega
              have hp : prevM d.l j = some d.l[j - 1] := by unfold prevM; rw [if_neg hk0, List.getElem?_eq_getElem hj1]
              obtain ⟨⟨f0, f1, f2⟩, d3, d4⟩ := (Hmv.out.grown hb1).cell b3 off3 Hda.out (j - 1) hj1
              obtain ⟨q, hq⟩ : ∃ v, Hid (d.l[j - 1] = v) := ⟨_, Lib.hid rfl⟩
              rw [hq.out] at f0 f1 f2 d3 d4 hp
              have HN : Hid (F = (mayF q m && ordM M (prevM d.l (j + 1)) (d.l.drop (j + 1)))) := Lib.hid (by rw [HK2.out, HO2.out, hp]; rfl)
              have hwr : IntKind.i64.wrap ((j : Int) - 1) = ((j - 1 : Nat) : Int) := by rw [IntKind.wrap_i64]; omega
              have hkm0 : (0 : Int) ≤ ((j - 1 : Nat) : Int) := by omega
              have hkm1 : ((j - 1 : Nat) : Int) < (DL : Int) := by omega
              have hj1I : (1 : Int) ≤ (j : Int) := by omega
              have hkm : j - 1 < DL := by omega
              have hw1 : (j : Int) - 1 = ((j - 1 : Nat) : Int) := by omega
              have fbl := World.block_lt_of_cell? _ _ f0
              have HMF : Hid (mayF q m = (decide (q.hi < m.lo) && (decide (1 < m.lo - q.hi) || decide (m.to ≠ q.to)))) := Lib.hid rfl
              clear hp hk0
              have hC := Blk.new (wr.alloc (.cells #[.int .u8 (m.lo : Int), .int .u8 (m.hi : Int), .int .i64 m.to] 57)) 57 #[.int .u8 (q.lo : Int), .int .u8 (q.hi : Int), .int .i64 q.to]
              have hb2 := hb1.alloc hb1.size (.cells #[.int .u8 (q.lo : Int), .int .u8 (q.hi : Int), .int .i64 q.to] 57)
              have hbX2 := hbX1.alloc hbX1.size (.cells #[.int .u8 (q.lo : Int), .int .u8 (q.hi : Int), .int .i64 q.to] 57)
              have g0 := cell_up (up_one wr (.cells #[.int .u8 (m.lo : Int), .int .u8 (m.hi : Int), .int .i64 m.to] 57)) z0
              have gc0 := cell_up (up_one wr (.cells #[.int .u8 (m.lo : Int), .int .u8 (m.hi : Int), .int .i64 m.to] 57)) cc0
              rw [World.size_alloc] at hC
              have v0 := hC.cell 0
              have v1 := hC.cell 1
              have v2 := hC.cell 2
              have vl := hC.lt
              simp only [List.getElem?_cons_zero, List.getElem?_cons_succ] at v0 v1 v2
              by_cases h1 : m.lo ≤ q.hi
              · have h1I : (m.lo : Int) ≤ (q.hi : Int) := by omega
                have HF : Hid (F = false) := Lib.hid (by rw [HN.out, HMF.out, decide_eq_false (show ¬ q.hi < m.lo by omega)]; rfl)
                clear h1 hw1
                go_wp2_with (fail)
                exact bodyPost_ret (v := .int .i64 30) (by simp [results, Try.results12, go_sem]; try first | rfl | assumption | omega) rfl ⟨by rw [HFR.out HF.out], hbX2⟩
              · have h1I : ¬ (m.lo : Int) ≤ (q.hi : Int) := by omega
                by_cases h2 : m.lo = q.hi + 1
                · have h2b : ((m.lo : Int) == (q.hi : Int) + 1) = true := by rw [beq_iff_eq]; omega
                  by_cases h3 : m.to = q.to
                  · have h3b : (m.to == q.to) = true := by simp [h3]
                    have HF : Hid (F = false) := Lib.hid (by rw [HN.out, HMF.out, decide_eq_false (show ¬ 1 < m.lo - q.hi by omega), decide_eq_false (show ¬ m.to ≠ q.to by omega)]; simp)
                    clear h1 h2 h3 hw1
                    go_wp2_with (fail)
                    exact bodyPost_ret (v := .int .i64 30) (by simp [results, Try.results12, go_sem]; try first | rfl | assumption | omega) rfl ⟨by rw [HFR.out HF.out], hbX2⟩
                  · have h3b : (m.to == q.to) = false := by simp [h3]
                    have HM2 : Hid (F = ordM M (prevM d.l (j + 1)) (d.l.drop (j + 1))) := Lib.hid (by rw [HN.out, HMF.out, decide_eq_true (show q.hi < m.lo by omega), decide_eq_true h3]; simp)
                    clear h1 h2 h3 hw1
                    go_wp2_with (fail)
                    exact ⟨⟨j + 1, by omega, by simp, HM2, hb2⟩, by simp [intOf]; omega⟩
                · have h2b : ((m.lo : Int) == (q.hi : Int) + 1) = false := by rw [beq_eq_false_iff_ne]; omega
                  have HM2 : Hid (F = ordM M (prevM d.l (j + 1)) (d.l.drop (j + 1))) := Lib.hid (by rw [HN.out, HMF.out, decide_eq_true (show q.hi < m.lo by omega), decide_eq_true (show 1 < m.lo - q.hi by omega)]; simp)
                  clear h1 h2 hw1
                  go_wp2_with (fail)
                  exact ⟨⟨j + 1, by omega, by simp, HM2, hb2⟩, by simp [intOf]; omega⟩
          · obtain rfl : j = DL := by omega
            have hjI : ¬ (j : Int) < (j : Int) := by omega
            have HT : Hid (F = true) := Lib.hid (by rw [HJ.out, List.drop_eq_nil_of_le (by rw [hDL.out]; exact Nat.le_refl _), ordM_nil])
            have HN2 : Hid (Q = stsB M (x.ms.drop (k + 1)) (x.ac.drop (k + 1))) := Lib.hid (by rw [HKF.out, HT.out]; rfl)
            go_wp2_with (fail)
            exact ⟨⟨k + 1, by omega, by simp, HN2, hbr.trans (hbj.mono hbr.size)⟩, by simp [intOf]; omega⟩
    · obtain rfl : k = M := by omega
      have hkI : ¬ (k : Int) < (k : Int) := by omega
      have HF : Hid (R = true) := Lib.hid (by rw [HRQ.out, HK.out, List.drop_eq_nil_of_le (by rw [HM.out]; exact Nat.le_refl _)]; rfl)
      go_wp2_with (fail)
      exact bodyPost_ret (v := .int .i64 0) (by simp [results, Try.results12, go_sem]; try first | rfl | assumption | omega) rfl ⟨by rw [HRT.out HF.out], hbw⟩
end Go.Proofs.Ytngbfjimmdkfeaa

