/- Texts of layer 2 joined: Up. -/
import Derived.Test.YtkdfobnkebkpfaaJU3
set_option linter.unusedVariables false
set_option linter.unusedSimpArgs false
/- The reference's reader: class, not_. -/
namespace Go.Proofs.Ytkdfobnkebkpfaa
open Go.RowKit Go.Shelf
attribute [local go_sem] Oper.semAt_some

set_option maxRecDepth 100000 in
set_option maxHeartbeats 8000000 in
theorem class_not_ (w : World) (rb : Nat) (s : ByteArray) (a : Nat) (r : List UInt8) (hA : RAt w rb s a false) (hS : Suf s (a + 1) r) (hs : s.size ≤ 4096) (hh : headIs 94 r = true) :
    Calls Try.prog 90 #[.pointer (some ⟨rb, 0, none⟩)] w (RA (exV w.heap.size) exJ w rb s ((classP r).bind fun x r1 => .ok (setX (spP (setM x) 256)) r1)) := by
  have hrb := hA.lt
  have hE0 := class_plain r
  rw [hh] at hE0
  obtain ⟨X, HX⟩ : ∃ X, Hid ((itemP (if true = true then r.tail else r)).bind (fun sp r1 => itemsP (r1.length + 1) r1 [sp]) = X) := ⟨_, Lib.hid rfl⟩
  rw [HX.out] at hE0
  have HE := Lib.hid hE0
  clear hE0
  have hzs : (w.setCell ⟨rb, 1, none⟩ (.int .i64 ((a : Int) + 1))).heap.size = w.heap.size := by simp
  have hB0 := Blk.new (w.setCell ⟨rb, 1, none⟩ (.int .i64 ((a : Int) + 1))) 25 re0
  rw [hzs] at hB0
  have hc1 : Cs w rb s none 0 [] (a + 1) false ((w.setCell ⟨rb, 1, none⟩ (.int .i64 ((a : Int) + 1))).alloc (.cells #[.int .i64 0, .slice none 0 0, .slice none 0 0] 25)) := ⟨(hA.set (a + 1) _ (by simp)).alloc _, World.ownsRow_nil _ _ _ _, grownBy_rb (grownBy_set w rb 1 _) (World.grownBy_alloc _ _ _), hB0⟩
  clear hzs hB0
  obtain ⟨c0, c1, c2⟩ := hA.cells
  have f1 := hA.frozen 1
  have his : ∀ W, RAt W rb s (a + 1) false → Calls Try.prog 60 #[.pointer (some ⟨rb, 0, none⟩), .int .u8 94] W fun e w' => e = .returned (.bool true) ∧ RAt w' rb s (a + 1) false ∧ W.grownBy w' none := fun W hW => by
    have := is_k 94 W rb s (a + 1) false r hW hS hs
    rw [hh] at this
    exact this
  have hlenS := hS.len
  clear hA
  go_enter Try.func90, Try.ntmps90
  go_wp2_with (fail)
  generalize World.alloc _ _ = W1 at hc1 ⊢
  clear c0 c1 c2 f1
  refine (his W1 hc1.at_).mono ?_
  rintro e W2 ⟨rfl, hA2, hg2⟩
  have hc2 := hc1.step (grown_none hg2) hA2
  obtain ⟨hlt3, _, hS3⟩ := headIs_lt hS hh
  have htl := tail_lt hh
  obtain ⟨c0, c1, c2⟩ := hc2.at_.cells
  have f1 := hc2.at_.frozen 1
  have hl1 := hc2.at_.lt
  obtain ⟨q, hq⟩ : ∃ q, Hid (r.tail = q) := ⟨_, Lib.hid rfl⟩
  rw [if_pos trivial, hq.out] at HX
  rw [hq.out] at hS3
  go_wp2_with (fail)
  have hc3 := hc2.step (grownBy_set W2 rb 1 (.int .i64 ((a : Int) + 1 + 1))) (hc2.at_.set (a + 1 + 1) (.int .i64 ((a : Int) + 1 + 1)) (by simp))
  clear c0 c1 c2 f1 hl1
  obtain ⟨a3, ha3⟩ : ∃ a3, Hid (a + 1 + 1 = a3) := ⟨_, Lib.hid rfl⟩
  rw [ha3.out] at hS3 hc3
  have hl3 := hS3.len
  generalize W2.setCell ⟨rb, 1, none⟩ (.int .i64 ((a : Int) + 1 + 1)) = W3 at hc3 ⊢
  have hI : ClsI w rb s X (.slice none 0 0) (.bool true) W3 := ⟨[], q, a3, none, 0, false, true, hS3, hc3.at_, rfl, rfl, hc3.own, hc3.gr, hc3.res, .inr (by have := hS3.len; simp; omega), .inr ⟨rfl, .inr ⟨.inl rfl, fun k => k + 1, fun k hk => Nat.le_refl _, HX.out.symm⟩⟩⟩
  clear hc3 hS3
  go_loopw [4, 5] (fun lv fv wr => ClsI w rb s X lv fv wr) (fun _ _ wr => msc rb s wr)
  case atStart => exact hI
  case round =>
    obtain ⟨l, r2, a2, A, C, bad, first, hS2, hA2, rfl, rfl, hO, hg2, hB2, hn2, hw⟩ := hrel
    have hm := Lib.hid (msc_eq hA2)
    have hc : Cs w rb s A C l a2 bad wr := ⟨hA2, hO, hg2, hB2⟩
    clear hI hA2 hO hg2 hB2
    rcases hw with ⟨rfl, hX⟩ | ⟨rfl, ⟨rfl, hh93, hX, hl0⟩ | ⟨hgo, Fn, hFn, hX⟩⟩
    · obtain ⟨c0, c1, c2⟩ := hc.at_.cells
      have z0 := hc.res.cell 0
      have z1 := hc.res.cell 1
      have z2 := hc.res.cell 2
      have f0 := hc.res.frozen 0
      have f1 := hc.res.frozen 1
      have f2 := hc.res.frozen 2
      simp only [List.getElem?_cons_zero, List.getElem?_cons_succ] at z0 z1 z2
      have hbl := hc.res.lt
      have HXX := Lib.hid hX
      clear hX
      go_wp2_with (fail)
      have hF := blk_put3 hc.res (.int .i64 0) (.slice none 0 0) (.slice none 0 0)
      have g0 := hF.cell 0
      have g1 := hF.cell 1
      have g2 := hF.cell 2
      simp only [List.getElem?_cons_zero, List.getElem?_cons_succ] at g0 g1 g2
      refine bodyPost_ret (v := Ea.val ⟨zeroX, none, 0, none, 0⟩) ?_ rfl (rret_bad (by rw [HE.out, HXX.out]; rfl) hS2 hc.at_ hc.gr hrb ⟨zeroX, none, 0, none, 0⟩)
      simp [results, Try.f90, go_sem, g0, g1, g2, itemV, zeroX, Fo.len]
    · have his9 := is_k 93 wr rb s a2 false r2 hc.at_ hS2 hs
      rw [hh93] at his9
      obtain ⟨hlt9, _, hS9⟩ := headIs_lt hS2 hh93
      have HXX := Lib.hid hX
      have H93 := Lib.hid hh93
      clear hX hh93
      obtain ⟨c0, c1, c2⟩ := hc.at_.cells
      go_wp2_with (fail)
      refine his9.mono ?_
      rintro e w3 ⟨rfl, hA3, hg3⟩
      have hc3 := hc.step (grown_none hg3) hA3
      clear hc his9 hA3 hg3 c0 c1 c2
      have hlz : ((l.length : Int) == 0) = false := by rw [beq_eq_false_iff_ne]; omega
      obtain ⟨c0, c1, c2⟩ := hc3.at_.cells
      have f1 := hc3.at_.frozen 1
      have hl1 := hc3.at_.lt
      go_wp2_with (fail)
      have hrl3 := hc3.at_.lt
      refine (rothers_any A C l w3 (Sps.of_own hc3.own rfl)).mono ?_
      rintro e w4 ⟨⟨a4, c4, rfl, hs4, hl4⟩, hb4⟩
      clear c0 c1 c2 f1 hl1
      have hc3 : Cs w rb s none 0 [] a2 false w4 := ⟨Blk.below hc3.at_ hb4 hc3.at_.lt, World.ownsRow_nil _ _ _ _, grownBy_rb hc3.gr (below_grownBy hb4 (some rb)), hc3.res.below hb4 hc3.res.lt⟩
      obtain ⟨c0, c1, c2⟩ := hc3.at_.cells
      have f1 := hc3.at_.frozen 1
      have hl1 := hc3.at_.lt
      by_cases hall : allB l = true
      · have hz : (othP l).length = 0 := oth_none.2 hall
        have hzI : (((othP l).length : Int) == 0) = true := by rw [hz]; rfl
        have z0 := hc3.res.cell 0
        have z1 := hc3.res.cell 1
        have z2 := hc3.res.cell 2
        have HXE : Hid ((classP r).bind (fun x r1 => .ok (setX (spP (setM x) 256)) r1) = .bad r2) := Lib.hid (by rw [HE.out, HXX.out, Rd.bind_ok, classE, if_pos (by rw [hall]; rfl), Rd.bind_bad, ← headIs_cons H93.out])
        clear hall hz
        go_wp2_with (fail)
        refine (rfail_any w4 rb s a2 false hc3.at_).mono ?_
        rintro e w5 ⟨rfl, hA5, hg5⟩
        have hB5 := hc3.res.kept hg5 (by simp; omega)
        have y0 := hB5.cell 0
        have y1 := hB5.cell 1
        have y2 := hB5.cell 2
        have f0 := hB5.frozen 0
        have f1 := hB5.frozen 1
        have f2 := hB5.frozen 2
        simp only [List.getElem?_cons_zero, List.getElem?_cons_succ] at y0 y1 y2
        have hbl := hB5.lt
        go_wp2_with (fail)
        have hF := blk_put3 hB5 (.int .i64 0) (.slice none 0 0) (.slice none 0 0)
        have g0 := hF.cell 0
        have g1 := hF.cell 1
        have g2 := hF.cell 2
        simp only [List.getElem?_cons_zero, List.getElem?_cons_succ] at g0 g1 g2
        refine bodyPost_ret (v := Ea.val ⟨zeroX, none, 0, none, 0⟩) ?_ rfl (rret_bad HXE.out hS2 hA5 (grownBy_rb hc3.gr hg5) hrb ⟨zeroX, none, 0, none, 0⟩)
        simp [results, Try.f90, go_sem, g0, g1, g2, itemV, zeroX, Fo.len]
      have hzI : (((othP l).length : Int) == 0) = false := by rw [beq_eq_false_iff_ne]; intro e; exact hall (oth_none.1 (by omega))
      have HAL := Lib.hid hall
      have hs4' := hs4
      clear hall
      go_wp2_with (fail)
      have hc4 := hc3.step (grownBy_set w4 rb 1 (.int .i64 ((a2 : Int) + 1))) (hc3.at_.set (a2 + 1) _ (by simp))
      clear c0 c1 c2 f1 hl1
      have hs4 := hs4.setOther (b' := rb) (j := 1) (fun b off e => by have := hl4 b off e; omega) (.int .i64 ((a2 : Int) + 1))
      generalize w4.setCell ⟨rb, 1, none⟩ (.int .i64 ((a2 : Int) + 1)) = W4 at hc4 hs4 ⊢
      have hsp := refSpans_own a4 c4 (othP l) W4 hs4
      rw [othP_again] at hsp
      refine hsp.mono ?_
      rintro e w5 ⟨⟨a5, c5, rfl, hs5, hl5⟩, hb5⟩
      have hB5 := hc4.res.below hb5 hc4.res.lt
      have hA5 := Blk.below hc4.at_ hb5 hc4.at_.lt
      have hg5 := grownBy_rb hc4.gr (below_grownBy hb5 (some rb))
      have z0 := hB5.cell 0
      have z1 := hB5.cell 1
      have z2 := hB5.cell 2
      have f0 := hB5.frozen 0
      have f1 := hB5.frozen 1
      have f2 := hB5.frozen 2
      simp only [List.getElem?_cons_zero, List.getElem?_cons_succ] at z0 z1 z2
      have hbl := hB5.lt
      go_wp2_with (fail)
      have hea : EaP (fun b => W4.heap.size ≤ b ∧ b < w5.heap.size) w5 ⟨setX (othP l), a5, c5, none, 0⟩ := set_ea (w := W4) (p := fun c => !inSp l c) hs5 hl5
      have hF := blk_put3 hB5 (.int .i64 2) (.slice a5 (othP l).length c5) (.slice none 0 0)
      have g0 := hF.cell 0
      have g1 := hF.cell 1
      have g2 := hF.cell 2
      simp only [List.getElem?_cons_zero, List.getElem?_cons_succ] at g0 g1 g2
      have hz4 := hc4.res.lt
      refine bodyPost_ret (v := Ea.val ⟨setX (othP l), a5, c5, none, 0⟩) ?_ rfl (rret_cells (e := ⟨setX (othP l), a5, c5, none, 0⟩) (r := r2.tail) (n := W4.heap.size) ?_ hS9 hA5 hg5 hea hz4 hrb)
      · simp [results, Try.f90, go_sem, g0, g1, g2, itemV, setX, Fo.len]
      · rw [HE.out, HXX.out, Rd.bind_ok]
        rw [classE, if_neg (by simpa using HAL.out), Rd.bind_ok]; rfl
    · have hn2 : l.length + r2.length ≤ 4096 := hn2.resolve_left (by simp)
      have hl2 := hS2.len
      have hFn : ∀ k, k < r2.length → k + 1 ≤ Fn k := hFn
      have HX2 := Lib.hid hX
      clear hX
      have hto : ∃ V, Hid (Cs w rb s A C l a2 false V) := ⟨wr, Lib.hid hc⟩
      clear hto
      obtain ⟨c0, c1, c2⟩ := hc.at_.cells
      cases first
      case false =>
        have h93 : headIs 93 r2 = false := hgo.resolve_left (by simp)
        have his9 := is_k 93 wr rb s a2 false r2 hc.at_ hS2 hs
        rw [h93] at his9
        clear hgo h93
        go_wp2_with (fail)
        refine his9.mono ?_
        rintro e V ⟨rfl, _, hgV⟩
        have hcV := hc.kept hgV
        clear hc his9 c0 c1 c2 hgV
        go_wp2_with (fail)
        refine (rbyte_any V rb s a2 r2 hcV.at_ hS2 hs).mono ?_
        rintro e w5 hans
        rcases hans.parts with ⟨c, r5, a5, val, hd, rfl, rfl, hS5, hA5, hg5⟩ | ⟨r5, a5, val, hd, rfl, ⟨c, rfl⟩, hS5, hA5, hg5⟩
        · have hlt5 := letP_lt hd
          have hlen5 := hS5.len
          have hc5 := hcV.step hg5 hA5
          have HD := Lib.hid hd
          clear hd hans hcV hA5 hg5
          by_cases h45 : headIs 45 r5 = true
          · have his45 := is_k 45 w5 rb s a5 false r5 hc5.at_ hS5 hs
            rw [h45] at his45
            obtain ⟨hlt6, _, hS6⟩ := headIs_lt hS5 h45
            have htl := tail_lt h45
            have H45 := Lib.hid h45
            clear h45
            go_wp2_with (fail)
            refine (his45).mono ?_
            rintro e w7 ⟨rfl, _, hgw7⟩
            have hw7 := hc5.kept hgw7
            obtain ⟨d0, d1, d2⟩ := hw7.at_.cells
            have f1 := hw7.at_.frozen 1
            have hl7 := hw7.at_.lt
            go_wp2_with (fail)
            have hc8 := hw7.step (grownBy_set w7 rb 1 (.int .i64 ((a5 : Int) + 1))) (hw7.at_.set (a5 + 1) _ (by simp))
            generalize w7.setCell ⟨rb, 1, none⟩ (.int .i64 ((a5 : Int) + 1)) = W8 at hc8 ⊢
            clear d0 d1 d2 f1 hl7 hw7 hc5
            refine (rbyte_any W8 rb s (a5 + 1) r5.tail hc8.at_ hS6 hs).mono ?_
            rintro e w9 hans
            rcases hans.parts with ⟨c9, r9, a9, val, hd, rfl, rfl, hS9, hA9, hg9⟩ | ⟨r9, a9, val, hd, rfl, ⟨c9, rfl⟩, hS9, hA9, hg9⟩
            · have hlt9 := letP_lt hd
              have hlen9 := hS9.len
              have hc9 := hc8.step hg9 hA9
              have HD9 := Lib.hid hd
              clear hd hans hc8 hA9 hg9
              obtain ⟨d0, d1, d2⟩ := hc9.at_.cells
              by_cases hlo : c9.toNat < c.toNat
              · have hloI : (c9.toNat : Int) < (c.toNat : Int) := by omega
                have f1 := hc9.at_.frozen 1
                have hl9 := hc9.at_.lt
                go_wp2_with (fail)
                have hc10 := hc9.step (grownBy_set w9 rb 1 (.int .i64 ((a5 : Int) + 1))) (hc9.at_.set (a5 + 1) _ (by simp))
                generalize w9.setCell ⟨rb, 1, none⟩ (.int .i64 ((a5 : Int) + 1)) = W10 at hc10 ⊢
                clear d0 d1 d2 f1 hl9 hc9
                refine (rfail_any W10 rb s (a5 + 1) false hc10.at_).mono ?_
                rintro e w11 ⟨rfl, hA11, hg11⟩
                have hc11 := hc10.step hg11 hA11
                have hX6 : X = .bad r5.tail := by rw [HX2.out, itemP, HD.out]; simp only []; rw [if_pos H45.out, HD9.out]; simp only []; rw [if_pos hlo]; rfl
                have HX6 := Lib.hid hX6
                clear hX6
                obtain ⟨a6, c6, w6, hrun6, hc6⟩ := (hc11).push c c9 hrb (by omega) 22
                have Hr6 := Lib.hid hrun6
                clear hrun6
                go_wp2_with (at_builtin; refine wpList_append_run rfl _ _ 22 22 rfl _ _ _ _ rfl rfl Hr6.out ?_)
                refine ⟨⟨l ++ [⟨c, c9⟩], r5.tail, (a5 + 1), a6, c6, true, false, hS6, hc6.at_, by simp, rfl, hc6.own, hc6.gr, hc6.res, .inl rfl, .inl ⟨rfl, HX6.out⟩⟩, ?_⟩
                rw [msc_eq hc6.at_, hm.out]
                simp
              · have hloI : ¬ (c9.toNat : Int) < (c.toNat : Int) := by omega
                have hX6 : X = itemsP (Fn r9.length) r9 (l ++ [⟨c, c9⟩]) := by rw [HX2.out, itemP, HD.out]; simp only []; rw [if_pos H45.out, HD9.out]; simp only []; rw [if_neg hlo]; rfl
                have HX6 := Lib.hid hX6
                clear hX6
                obtain ⟨a6, c6, w6, hrun6, hc6⟩ := (hc9).push c c9 hrb (by omega) 22
                have Hr6 := Lib.hid hrun6
                clear hrun6
                go_wp2_with (at_builtin; refine wpList_append_run rfl _ _ 22 22 rfl _ _ _ _ rfl rfl Hr6.out ?_)
                refine ⟨⟨l ++ [⟨c, c9⟩], r9, a9, a6, c6, false, false, hS9, hc6.at_, by simp, rfl, hc6.own, hc6.gr, hc6.res, .inr (by simp; omega), .inr ⟨rfl, cls_next (by simp) (hFn _ (by omega)) HX6.out⟩⟩, ?_⟩
                rw [msc_eq hc6.at_, hm.out]
                simp
                omega
            · have hc9 := hc8.step hg9 hA9
              have hX6 : X = .bad r9 := by rw [HX2.out, itemP, HD.out]; simp only []; rw [if_pos H45.out, hd]; rfl
              have HX6 := Lib.hid hX6
              clear hX6 hd hans hc8 hA9 hg9
              obtain ⟨d0, d1, d2⟩ := hc9.at_.cells
              obtain ⟨a6, c6, w6, hrun6, hc6⟩ := (hc9).push c c9 hrb (by omega) 22
              have Hr6 := Lib.hid hrun6
              clear hrun6
              go_wp2_with (at_builtin; refine wpList_append_run rfl _ _ 22 22 rfl _ _ _ _ rfl rfl Hr6.out ?_)
              refine ⟨⟨l ++ [⟨c, c9⟩], r9, a9, a6, c6, true, false, hS9, hc6.at_, by simp, rfl, hc6.own, hc6.gr, hc6.res, .inl rfl, .inl ⟨rfl, HX6.out⟩⟩, ?_⟩
              rw [msc_eq hc6.at_, hm.out]
              simp
          · rw [Bool.not_eq_true] at h45
            have his45 := is_k 45 w5 rb s a5 false r5 hc5.at_ hS5 hs
            rw [h45] at his45
            have hX6 : X = itemsP (Fn r5.length) r5 (l ++ [⟨c, c⟩]) := by rw [HX2.out, itemP, HD.out]; simp only []; rw [if_neg (by rw [h45]; simp)]; rfl
            have HX6 := Lib.hid hX6
            clear hX6 h45
            go_wp2_with (fail)
            refine (his45).mono ?_
            rintro e w7 ⟨rfl, _, hgw7⟩
            have hw7 := hc5.kept hgw7
            obtain ⟨a6, c6, w6, hrun6, hc6⟩ := (hw7).push c c hrb (by omega) 22
            have Hr6 := Lib.hid hrun6
            clear hrun6
            go_wp2_with (at_builtin; refine wpList_append_run rfl _ _ 22 22 rfl _ _ _ _ rfl rfl Hr6.out ?_)
            refine ⟨⟨l ++ [⟨c, c⟩], r5, a5, a6, c6, false, false, hS5, hc6.at_, by simp, rfl, hc6.own, hc6.gr, hc6.res, .inr (by simp; omega), .inr ⟨rfl, cls_next (by simp) (hFn _ (by omega)) HX6.out⟩⟩, ?_⟩
            rw [msc_eq hc6.at_, hm.out]
            simp
            omega
        · have hc5 := hcV.step hg5 hA5
          have his45 := is_b 45 w5 rb s a5 r5 hc5.at_ hS5 hs
          have hX6 : X = .bad r5 := by rw [HX2.out, itemP, hd]; rfl
          have HX6 := Lib.hid hX6
          clear hX6 hd hans hcV hA5 hg5
          go_wp2_with (fail)
          refine (his45).mono ?_
          rintro e w7 ⟨rfl, _, hgw7⟩
          have hw7 := hc5.kept hgw7
          obtain ⟨a6, c6, w6, hrun6, hc6⟩ := (hw7).push c c hrb (by omega) 22
          have Hr6 := Lib.hid hrun6
          clear hrun6
          go_wp2_with (at_builtin; refine wpList_append_run rfl _ _ 22 22 rfl _ _ _ _ rfl rfl Hr6.out ?_)
          refine ⟨⟨l ++ [⟨c, c⟩], r5, a5, a6, c6, true, false, hS5, hc6.at_, by simp, rfl, hc6.own, hc6.gr, hc6.res, .inl rfl, .inl ⟨rfl, HX6.out⟩⟩, ?_⟩
          rw [msc_eq hc6.at_, hm.out]
          simp
      case true =>
        clear hgo
        go_wp2_with (fail)
        have hcV := hc
        clear hc c0 c1 c2
        refine (rbyte_any wr rb s a2 r2 hcV.at_ hS2 hs).mono ?_
        rintro e w5 hans
        rcases hans.parts with ⟨c, r5, a5, val, hd, rfl, rfl, hS5, hA5, hg5⟩ | ⟨r5, a5, val, hd, rfl, ⟨c, rfl⟩, hS5, hA5, hg5⟩
        · have hlt5 := letP_lt hd
          have hlen5 := hS5.len
          have hc5 := hcV.step hg5 hA5
          have HD := Lib.hid hd
          clear hd hans hcV hA5 hg5
          by_cases h45 : headIs 45 r5 = true
          · have his45 := is_k 45 w5 rb s a5 false r5 hc5.at_ hS5 hs
            rw [h45] at his45
            obtain ⟨hlt6, _, hS6⟩ := headIs_lt hS5 h45
            have htl := tail_lt h45
            have H45 := Lib.hid h45
            clear h45
            go_wp2_with (fail)
            refine (his45).mono ?_
            rintro e w7 ⟨rfl, _, hgw7⟩
            have hw7 := hc5.kept hgw7
            obtain ⟨d0, d1, d2⟩ := hw7.at_.cells
            have f1 := hw7.at_.frozen 1
            have hl7 := hw7.at_.lt
            go_wp2_with (fail)
            have hc8 := hw7.step (grownBy_set w7 rb 1 (.int .i64 ((a5 : Int) + 1))) (hw7.at_.set (a5 + 1) _ (by simp))
            generalize w7.setCell ⟨rb, 1, none⟩ (.int .i64 ((a5 : Int) + 1)) = W8 at hc8 ⊢
            clear d0 d1 d2 f1 hl7 hw7 hc5
            refine (rbyte_any W8 rb s (a5 + 1) r5.tail hc8.at_ hS6 hs).mono ?_
            rintro e w9 hans
            rcases hans.parts with ⟨c9, r9, a9, val, hd, rfl, rfl, hS9, hA9, hg9⟩ | ⟨r9, a9, val, hd, rfl, ⟨c9, rfl⟩, hS9, hA9, hg9⟩
            · have hlt9 := letP_lt hd
              have hlen9 := hS9.len
              have hc9 := hc8.step hg9 hA9
              have HD9 := Lib.hid hd
              clear hd hans hc8 hA9 hg9
              obtain ⟨d0, d1, d2⟩ := hc9.at_.cells
              by_cases hlo : c9.toNat < c.toNat
              · have hloI : (c9.toNat : Int) < (c.toNat : Int) := by omega
                have f1 := hc9.at_.frozen 1
                have hl9 := hc9.at_.lt
                go_wp2_with (fail)
                have hc10 := hc9.step (grownBy_set w9 rb 1 (.int .i64 ((a5 : Int) + 1))) (hc9.at_.set (a5 + 1) _ (by simp))
                generalize w9.setCell ⟨rb, 1, none⟩ (.int .i64 ((a5 : Int) + 1)) = W10 at hc10 ⊢
                clear d0 d1 d2 f1 hl9 hc9
                refine (rfail_any W10 rb s (a5 + 1) false hc10.at_).mono ?_
                rintro e w11 ⟨rfl, hA11, hg11⟩
                have hc11 := hc10.step hg11 hA11
                have hX6 : X = .bad r5.tail := by rw [HX2.out, itemP, HD.out]; simp only []; rw [if_pos H45.out, HD9.out]; simp only []; rw [if_pos hlo]; rfl
                have HX6 := Lib.hid hX6
                clear hX6
                obtain ⟨a6, c6, w6, hrun6, hc6⟩ := (hc11).push c c9 hrb (by omega) 22
                have Hr6 := Lib.hid hrun6
                clear hrun6
                go_wp2_with (at_builtin; refine wpList_append_run rfl _ _ 22 22 rfl _ _ _ _ rfl rfl Hr6.out ?_)
                refine ⟨⟨l ++ [⟨c, c9⟩], r5.tail, (a5 + 1), a6, c6, true, false, hS6, hc6.at_, by simp, rfl, hc6.own, hc6.gr, hc6.res, .inl rfl, .inl ⟨rfl, HX6.out⟩⟩, ?_⟩
                rw [msc_eq hc6.at_, hm.out]
                simp
              · have hloI : ¬ (c9.toNat : Int) < (c.toNat : Int) := by omega
                have hX6 : X = itemsP (Fn r9.length) r9 (l ++ [⟨c, c9⟩]) := by rw [HX2.out, itemP, HD.out]; simp only []; rw [if_pos H45.out, HD9.out]; simp only []; rw [if_neg hlo]; rfl
                have HX6 := Lib.hid hX6
                clear hX6
                obtain ⟨a6, c6, w6, hrun6, hc6⟩ := (hc9).push c c9 hrb (by omega) 22
                have Hr6 := Lib.hid hrun6
                clear hrun6
                go_wp2_with (at_builtin; refine wpList_append_run rfl _ _ 22 22 rfl _ _ _ _ rfl rfl Hr6.out ?_)
                refine ⟨⟨l ++ [⟨c, c9⟩], r9, a9, a6, c6, false, false, hS9, hc6.at_, by simp, rfl, hc6.own, hc6.gr, hc6.res, .inr (by simp; omega), .inr ⟨rfl, cls_next (by simp) (hFn _ (by omega)) HX6.out⟩⟩, ?_⟩
                rw [msc_eq hc6.at_, hm.out]
                simp
                omega
            · have hc9 := hc8.step hg9 hA9
              have hX6 : X = .bad r9 := by rw [HX2.out, itemP, HD.out]; simp only []; rw [if_pos H45.out, hd]; rfl
              have HX6 := Lib.hid hX6
              clear hX6 hd hans hc8 hA9 hg9
              obtain ⟨d0, d1, d2⟩ := hc9.at_.cells
              obtain ⟨a6, c6, w6, hrun6, hc6⟩ := (hc9).push c c9 hrb (by omega) 22
              have Hr6 := Lib.hid hrun6
              clear hrun6
              go_wp2_with (at_builtin; refine wpList_append_run rfl _ _ 22 22 rfl _ _ _ _ rfl rfl Hr6.out ?_)
              refine ⟨⟨l ++ [⟨c, c9⟩], r9, a9, a6, c6, true, false, hS9, hc6.at_, by simp, rfl, hc6.own, hc6.gr, hc6.res, .inl rfl, .inl ⟨rfl, HX6.out⟩⟩, ?_⟩
              rw [msc_eq hc6.at_, hm.out]
              simp
          · rw [Bool.not_eq_true] at h45
            have his45 := is_k 45 w5 rb s a5 false r5 hc5.at_ hS5 hs
            rw [h45] at his45
            have hX6 : X = itemsP (Fn r5.length) r5 (l ++ [⟨c, c⟩]) := by rw [HX2.out, itemP, HD.out]; simp only []; rw [if_neg (by rw [h45]; simp)]; rfl
            have HX6 := Lib.hid hX6
            clear hX6 h45
            go_wp2_with (fail)
            refine (his45).mono ?_
            rintro e w7 ⟨rfl, _, hgw7⟩
            have hw7 := hc5.kept hgw7
            obtain ⟨a6, c6, w6, hrun6, hc6⟩ := (hw7).push c c hrb (by omega) 22
            have Hr6 := Lib.hid hrun6
            clear hrun6
            go_wp2_with (at_builtin; refine wpList_append_run rfl _ _ 22 22 rfl _ _ _ _ rfl rfl Hr6.out ?_)
            refine ⟨⟨l ++ [⟨c, c⟩], r5, a5, a6, c6, false, false, hS5, hc6.at_, by simp, rfl, hc6.own, hc6.gr, hc6.res, .inr (by simp; omega), .inr ⟨rfl, cls_next (by simp) (hFn _ (by omega)) HX6.out⟩⟩, ?_⟩
            rw [msc_eq hc6.at_, hm.out]
            simp
            omega
        · have hc5 := hcV.step hg5 hA5
          have his45 := is_b 45 w5 rb s a5 r5 hc5.at_ hS5 hs
          have hX6 : X = .bad r5 := by rw [HX2.out, itemP, hd]; rfl
          have HX6 := Lib.hid hX6
          clear hX6 hd hans hcV hA5 hg5
          go_wp2_with (fail)
          refine (his45).mono ?_
          rintro e w7 ⟨rfl, _, hgw7⟩
          have hw7 := hc5.kept hgw7
          obtain ⟨a6, c6, w6, hrun6, hc6⟩ := (hw7).push c c hrb (by omega) 22
          have Hr6 := Lib.hid hrun6
          clear hrun6
          go_wp2_with (at_builtin; refine wpList_append_run rfl _ _ 22 22 rfl _ _ _ _ rfl rfl Hr6.out ?_)
          refine ⟨⟨l ++ [⟨c, c⟩], r5, a5, a6, c6, true, false, hS5, hc6.at_, by simp, rfl, hc6.own, hc6.gr, hc6.res, .inl rfl, .inl ⟨rfl, HX6.out⟩⟩, ?_⟩
          rw [msc_eq hc6.at_, hm.out]
          simp

end Go.Proofs.Ytkdfobnkebkpfaa
