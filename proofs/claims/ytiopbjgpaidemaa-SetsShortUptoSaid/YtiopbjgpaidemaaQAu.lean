/- The row SetsShort in its second form: for every grammar by numbers whose reading is of bulk at most 1048576: the law answers true and changes nothing that was there. -/
/- Texts joined: Wd Wg Kk PSs. -/
import Derived.Test.YtiopbjgpaidemaaQAt
import Derived.Test.YtiopbjgpaidemaaQAp
import Derived.Test.YtiopbjgpaidemaaQAi
import Derived.Test.YtiopbjgpaidemaaQAa
set_option linter.unusedVariables false
set_option linter.unusedSimpArgs false
namespace Go.Proofs.Ytiopbjgpaidemaa
open Go.RowKit Go.Maps

attribute [local go_sem] Oper.semAt_some

set_option maxRecDepth 100000 in
set_option maxHeartbeats 16000000 in
theorem live9_any (w : World) : Calls Try.prog 19 #[] w fun e w' => e = .returned (.bool true) ∧ Below w.heap.size w w' := by
  have HL0 := Lib.hid (sLead_any (e9DD w.heap.size) [-2] (some ⟨w.heap.size + 14, 0, none⟩) 1 (allocs w (e9Os w.heap.size)) (e9_d w) (e9_fd _) (e9_s w) (by unfold OkL e9DD; simp) (by simp))
  rw [e9_pd, e9D_emp] at HL0
  have HL1 : Hid (Calls Try.prog 33 #[(e9DD w.heap.size).v, .slice (some ⟨w.heap.size + 14, 0, none⟩) 1 1] (allocs w (e9Os w.heap.size)) (LeadQ (allocs w (e9Os w.heap.size)) (TokP e9D (nulB e9D) (ahd (nulB e9D) [-2])) true)) := HL0
  clear HL0
  have Hc := e9_c w
  have Hd := e9_d w
  have Hbc := Lib.hid (e9_bc w)
  have Hbd := Lib.hid (e9_bd w)
  have HwV := Lib.hid (allocs_below (e9Os w.heap.size) w)
  have Hnul := Lib.hid (fun W (hb : Below (allocs w (e9Os w.heap.size)).heap.size (allocs w (e9Os w.heap.size)) W) => sNullable_any (e9CD w.heap.size) W (Hc.grown hb) (e9_fc _))
  have Hfc := Lib.hid (fun W (hb : Below (allocs w (e9Os w.heap.size)).heap.size (allocs w (e9Os w.heap.size)) W) => sFirst_any (e9CD w.heap.size) W (Hc.grown hb) (e9_fc _))
  have Hgc := Lib.hid (fun W (hb : Below (allocs w (e9Os w.heap.size)).heap.size (allocs w (e9Os w.heap.size)) W) => sFollow_any (e9CD w.heap.size) W (Hc.grown hb) (e9_fc _))
  have Hfd := Lib.hid (fun W (hb : Below (allocs w (e9Os w.heap.size)).heap.size (allocs w (e9Os w.heap.size)) W) => sFirst_any (e9DD w.heap.size) W (Hd.grown hb) (e9_fd _))
  have Hgd := Lib.hid (fun W (hb : Below (allocs w (e9Os w.heap.size)).heap.size (allocs w (e9Os w.heap.size)) W) => sFollow_any (e9DD w.heap.size) W (Hd.grown hb) (e9_fd _))
  have Hsd := Lib.hid (fun W (hb : Below (allocs w (e9Os w.heap.size)).heap.size (allocs w (e9Os w.heap.size)) W) => short_any (e9DD w.heap.size) W (Hd.grown hb) (e9_fd _))
  rw [e9_pc] at Hnul Hfc Hgc
  rw [e9_pd] at Hfd Hgd Hsd
  clear Hc Hd
  go_enter Try.func19, Try.ntmps19
  go_wp2_with (fail)
  refine HL1.out.mono ?_
  rintro e w1 ⟨la, lc, l, rfl, hr, ho, hb⟩
  obtain rfl : l = [0] := hr.same e9D_lead (fun _ => Iff.rfl)
  have HV1 := Lib.hid hb
  have HQ1 : Hid (Below w1.heap.size w1 w1) := Lib.hid (Below.refl _ w1)
  have Hl1 : Hid (Ints w1 la lc [0]) := Lib.hid ho.vs
  have hlm := Hl1.out.le
  have hlx := Hl1.out.max
  clear HL1 hr ho hb
  obtain ⟨V, hV⟩ : ∃ q, Hid (allocs w (e9Os w.heap.size) = q) := ⟨_, Lib.hid rfl⟩
  rw [hV.out] at HV1 Hbc Hbd HwV Hnul Hfc Hgc Hfd Hgd Hsd
  have hwV : w.heap.size ≤ V.heap.size := HwV.out.size
  obtain ⟨h, hh⟩ : ∃ q, Hid (w.heap.size = q) := ⟨_, Lib.hid rfl⟩
  rw [hh.out] at Hbc Hbd Hnul Hfc Hgc Hfd Hgd Hsd ⊢
  clear hV
  have hx : Blk w1 (h + 1 + 1 + 1 + 1 + 1) 41 [.slice (some ⟨h, 0, none⟩) 2 2, .slice (some ⟨h + 1, 0, none⟩) 1 1, .slice (some ⟨h + 1 + 1 + 1 + 1, 0, none⟩) 1 1] := Hbc.out.below HV1.out Hbc.out.lt
  have x0 := hx.cell 0
  have x1 := hx.cell 1
  have x2 := hx.cell 2
  have xl := hx.lt
  simp only [List.getElem?_cons_zero, List.getElem?_cons_succ] at x0 x1 x2
  clear hx
  go_wp2_with (fail)
  clear x0 x1 x2 xl
  refine (Hnul.out w1 HV1.out).mono ?_
  rintro e w2 ⟨na, nc, rfl, ho, hb⟩
  have HV2 := Lib.hid (HV1.out.trans (hb.mono HV1.out.size))
  have HQ2 := Lib.hid (HQ1.out.trans (hb.mono HQ1.out.size))
  have hn2 : Vs w2 na nc ([true].map Value.bool) := by
    have := ho.bls
    rw [e9C_nul] at this
    exact this
  clear ho hb
  have Hbl := Lib.hid (allocs_below [.cells #[.bool true] 4] w2)
  have Hs : Hid (Calls Try.prog 21 #[.slice na 1 nc, .slice (some ⟨w2.heap.size, 0, none⟩) 1 1] (allocs w2 [.cells #[.bool true] 4]) (fun e w' => e = .returned (.bool true) ∧ Below (allocs w2 [.cells #[.bool true] 4]).heap.size (allocs w2 [.cells #[.bool true] 4]) w')) := Lib.hid (sameBools9_any na (some ⟨w2.heap.size, 0, none⟩) nc 1 [true] [true] (allocs w2 [.cells #[.bool true] 4]) (hn2.grown Hbl.out) (allocs_vs [.cells #[.bool true] 4] w2 0 _ _ rfl 1 rfl (e9_mx 1 (by omega))))
  clear hn2
  go_wp2_with (fail)
  refine Hs.out.mono ?_
  rintro e w3 ⟨rfl, hb⟩
  have HV3 := Lib.hid (HV2.out.trans ((Hbl.out.trans (hb.mono Hbl.out.size)).mono HV2.out.size))
  have HQ3 := Lib.hid (HQ2.out.trans ((Hbl.out.trans (hb.mono Hbl.out.size)).mono HQ2.out.size))
  clear hb Hs Hbl
  have hx : Blk w3 (h + 1 + 1 + 1 + 1 + 1) 41 [.slice (some ⟨h, 0, none⟩) 2 2, .slice (some ⟨h + 1, 0, none⟩) 1 1, .slice (some ⟨h + 1 + 1 + 1 + 1, 0, none⟩) 1 1] := Hbc.out.below HV3.out Hbc.out.lt
  have x0 := hx.cell 0
  have x1 := hx.cell 1
  have x2 := hx.cell 2
  have xl := hx.lt
  simp only [List.getElem?_cons_zero, List.getElem?_cons_succ] at x0 x1 x2
  clear hx
  go_wp2_with (fail)
  clear x0 x1 x2 xl
  refine (Hfc.out w3 HV3.out).mono ?_
  rintro e w4 ⟨fa, fc, ds, rfl, hdl, hal, hri, hb⟩
  have HV4 := Lib.hid (HV3.out.trans (hb.mono HV3.out.size))
  have HQ4 := Lib.hid (HQ3.out.trans (hb.mono HQ3.out.size))
  have Hbl := Lib.hid (allocs_below [.cells #[.int .i64 0] 3, .cells #[.slice (some ⟨w4.heap.size, 0, none⟩) 1 1] 50] w4)
  have Hs : Hid (Calls Try.prog 24 #[.slice fa 1 fc, .slice (some ⟨w4.heap.size + 1, 0, none⟩) 1 1] (allocs w4 [.cells #[.int .i64 0] 3, .cells #[.slice (some ⟨w4.heap.size, 0, none⟩) 1 1] 50]) (fun e w' => e = .returned (.bool true) ∧ Below (allocs w4 [.cells #[.int .i64 0] 3, .cells #[.slice (some ⟨w4.heap.size, 0, none⟩) 1 1] 50]).heap.size (allocs w4 [.cells #[.int .i64 0] 3, .cells #[.slice (some ⟨w4.heap.size, 0, none⟩) 1 1] 50]) w')) := Lib.hid (by
    have h1 := sameLists9_any fa (some ⟨w4.heap.size + 1, 0, none⟩) fc 1 ds [⟨[0], some ⟨w4.heap.size, 0, none⟩, 1⟩] (allocs w4 [.cells #[.int .i64 0] 3, .cells #[.slice (some ⟨w4.heap.size, 0, none⟩) 1 1] 50]) (hal.grown Hbl.out) (lit_L1 w4 [0] 1 rfl (by omega))
    rw [lst_1 hdl hri e9C_first] at h1
    rw [show ds.length = 1 from hdl] at h1
    exact h1)
  clear hal hri hdl hb
  go_wp2_with (fail)
  refine Hs.out.mono ?_
  rintro e w5 ⟨rfl, hb⟩
  have HV5 := Lib.hid (HV4.out.trans ((Hbl.out.trans (hb.mono Hbl.out.size)).mono HV4.out.size))
  have HQ5 := Lib.hid (HQ4.out.trans ((Hbl.out.trans (hb.mono Hbl.out.size)).mono HQ4.out.size))
  clear hb Hs Hbl
  have hx : Blk w5 (h + 1 + 1 + 1 + 1 + 1) 41 [.slice (some ⟨h, 0, none⟩) 2 2, .slice (some ⟨h + 1, 0, none⟩) 1 1, .slice (some ⟨h + 1 + 1 + 1 + 1, 0, none⟩) 1 1] := Hbc.out.below HV5.out Hbc.out.lt
  have x0 := hx.cell 0
  have x1 := hx.cell 1
  have x2 := hx.cell 2
  have xl := hx.lt
  simp only [List.getElem?_cons_zero, List.getElem?_cons_succ] at x0 x1 x2
  clear hx
  go_wp2_with (fail)
  clear x0 x1 x2 xl
  refine (Hgc.out w5 HV5.out).mono ?_
  rintro e w6 ⟨fa, fc, ds, rfl, hdl, hal, hri, hb⟩
  have HV6 := Lib.hid (HV5.out.trans (hb.mono HV5.out.size))
  have HQ6 := Lib.hid (HQ5.out.trans (hb.mono HQ5.out.size))
  have Hbl := Lib.hid (allocs_below [.cells #[.int .i64 1, .int .i64 2] 3, .cells #[.slice (some ⟨w6.heap.size, 0, none⟩) 2 2] 50] w6)
  have Hs : Hid (Calls Try.prog 24 #[.slice fa 1 fc, .slice (some ⟨w6.heap.size + 1, 0, none⟩) 1 1] (allocs w6 [.cells #[.int .i64 1, .int .i64 2] 3, .cells #[.slice (some ⟨w6.heap.size, 0, none⟩) 2 2] 50]) (fun e w' => e = .returned (.bool true) ∧ Below (allocs w6 [.cells #[.int .i64 1, .int .i64 2] 3, .cells #[.slice (some ⟨w6.heap.size, 0, none⟩) 2 2] 50]).heap.size (allocs w6 [.cells #[.int .i64 1, .int .i64 2] 3, .cells #[.slice (some ⟨w6.heap.size, 0, none⟩) 2 2] 50]) w')) := Lib.hid (by
    have h1 := sameLists9_any fa (some ⟨w6.heap.size + 1, 0, none⟩) fc 1 ds [⟨[1, 2], some ⟨w6.heap.size, 0, none⟩, 2⟩] (allocs w6 [.cells #[.int .i64 1, .int .i64 2] 3, .cells #[.slice (some ⟨w6.heap.size, 0, none⟩) 2 2] 50]) (hal.grown Hbl.out) (lit_L1 w6 [1, 2] 2 rfl (by omega))
    rw [lst_1 hdl hri e9C_fol] at h1
    rw [show ds.length = 1 from hdl] at h1
    exact h1)
  clear hal hri hdl hb
  go_wp2_with (fail)
  refine Hs.out.mono ?_
  rintro e w7 ⟨rfl, hb⟩
  have HV7 := Lib.hid (HV6.out.trans ((Hbl.out.trans (hb.mono Hbl.out.size)).mono HV6.out.size))
  have HQ7 := Lib.hid (HQ6.out.trans ((Hbl.out.trans (hb.mono Hbl.out.size)).mono HQ6.out.size))
  clear hb Hs Hbl
  have hx : Blk w7 (h + 1 + 1 + 1 + 1 + 1 + 1 + 1 + 1 + 1 + 1 + 1 + 1 + 1) 41 [.slice (some ⟨h + 1 + 1 + 1 + 1 + 1 + 1, 0, none⟩) 2 2, .slice (some ⟨h + 1 + 1 + 1 + 1 + 1 + 1 + 1, 0, none⟩) 2 2, .slice (some ⟨h + 1 + 1 + 1 + 1 + 1 + 1 + 1 + 1 + 1 + 1 + 1 + 1, 0, none⟩) 2 2] := Hbd.out.below HV7.out Hbd.out.lt
  have x0 := hx.cell 0
  have x1 := hx.cell 1
  have x2 := hx.cell 2
  have xl := hx.lt
  simp only [List.getElem?_cons_zero, List.getElem?_cons_succ] at x0 x1 x2
  clear hx
  go_wp2_with (fail)
  clear x0 x1 x2 xl
  refine (Hfd.out w7 HV7.out).mono ?_
  rintro e w8 ⟨fa, fc, ds, rfl, hdl, hal, hri, hb⟩
  have HV8 := Lib.hid (HV7.out.trans (hb.mono HV7.out.size))
  have HQ8 := Lib.hid (HQ7.out.trans (hb.mono HQ7.out.size))
  have Hbl := Lib.hid (allocs_below [.cells #[.int .i64 0, .int .i64 1] 3, .cells #[.int .i64 0] 3, .cells #[.slice (some ⟨w8.heap.size, 0, none⟩) 2 2, .slice (some ⟨w8.heap.size + 1, 0, none⟩) 1 1] 50] w8)
  have Hs : Hid (Calls Try.prog 24 #[.slice fa 2 fc, .slice (some ⟨w8.heap.size + 1 + 1, 0, none⟩) 2 2] (allocs w8 [.cells #[.int .i64 0, .int .i64 1] 3, .cells #[.int .i64 0] 3, .cells #[.slice (some ⟨w8.heap.size, 0, none⟩) 2 2, .slice (some ⟨w8.heap.size + 1, 0, none⟩) 1 1] 50]) (fun e w' => e = .returned (.bool true) ∧ Below (allocs w8 [.cells #[.int .i64 0, .int .i64 1] 3, .cells #[.int .i64 0] 3, .cells #[.slice (some ⟨w8.heap.size, 0, none⟩) 2 2, .slice (some ⟨w8.heap.size + 1, 0, none⟩) 1 1] 50]).heap.size (allocs w8 [.cells #[.int .i64 0, .int .i64 1] 3, .cells #[.int .i64 0] 3, .cells #[.slice (some ⟨w8.heap.size, 0, none⟩) 2 2, .slice (some ⟨w8.heap.size + 1, 0, none⟩) 1 1] 50]) w')) := Lib.hid (by
    have h1 := sameLists9_any fa (some ⟨w8.heap.size + 1 + 1, 0, none⟩) fc 2 ds [⟨[0, 1], some ⟨w8.heap.size, 0, none⟩, 2⟩, ⟨[0], some ⟨w8.heap.size + 1, 0, none⟩, 1⟩] (allocs w8 [.cells #[.int .i64 0, .int .i64 1] 3, .cells #[.int .i64 0] 3, .cells #[.slice (some ⟨w8.heap.size, 0, none⟩) 2 2, .slice (some ⟨w8.heap.size + 1, 0, none⟩) 1 1] 50]) (hal.grown Hbl.out) (lit_L2 w8 [0, 1] [0] 2 1 rfl rfl (by omega) (by omega))
    rw [lst_2 hdl hri e9D_first0 e9D_first1] at h1
    rw [show ds.length = 2 from hdl] at h1
    exact h1)
  clear hal hri hdl hb
  go_wp2_with (fail)
  refine Hs.out.mono ?_
  rintro e w9 ⟨rfl, hb⟩
  have HV9 := Lib.hid (HV8.out.trans ((Hbl.out.trans (hb.mono Hbl.out.size)).mono HV8.out.size))
  have HQ9 := Lib.hid (HQ8.out.trans ((Hbl.out.trans (hb.mono Hbl.out.size)).mono HQ8.out.size))
  clear hb Hs Hbl
  have hx : Blk w9 (h + 1 + 1 + 1 + 1 + 1 + 1 + 1 + 1 + 1 + 1 + 1 + 1 + 1) 41 [.slice (some ⟨h + 1 + 1 + 1 + 1 + 1 + 1, 0, none⟩) 2 2, .slice (some ⟨h + 1 + 1 + 1 + 1 + 1 + 1 + 1, 0, none⟩) 2 2, .slice (some ⟨h + 1 + 1 + 1 + 1 + 1 + 1 + 1 + 1 + 1 + 1 + 1 + 1, 0, none⟩) 2 2] := Hbd.out.below HV9.out Hbd.out.lt
  have x0 := hx.cell 0
  have x1 := hx.cell 1
  have x2 := hx.cell 2
  have xl := hx.lt
  simp only [List.getElem?_cons_zero, List.getElem?_cons_succ] at x0 x1 x2
  clear hx
  go_wp2_with (fail)
  clear x0 x1 x2 xl
  refine (Hgd.out w9 HV9.out).mono ?_
  rintro e w10 ⟨fa, fc, ds, rfl, hdl, hal, hri, hb⟩
  have HV10 := Lib.hid (HV9.out.trans (hb.mono HV9.out.size))
  have HQ10 := Lib.hid (HQ9.out.trans (hb.mono HQ9.out.size))
  have Hbl := Lib.hid (allocs_below [.cells #[.int .i64 2] 3, .cells #[.int .i64 1] 3, .cells #[.slice (some ⟨w10.heap.size, 0, none⟩) 1 1, .slice (some ⟨w10.heap.size + 1, 0, none⟩) 1 1] 50] w10)
  have Hs : Hid (Calls Try.prog 24 #[.slice fa 2 fc, .slice (some ⟨w10.heap.size + 1 + 1, 0, none⟩) 2 2] (allocs w10 [.cells #[.int .i64 2] 3, .cells #[.int .i64 1] 3, .cells #[.slice (some ⟨w10.heap.size, 0, none⟩) 1 1, .slice (some ⟨w10.heap.size + 1, 0, none⟩) 1 1] 50]) (fun e w' => e = .returned (.bool true) ∧ Below (allocs w10 [.cells #[.int .i64 2] 3, .cells #[.int .i64 1] 3, .cells #[.slice (some ⟨w10.heap.size, 0, none⟩) 1 1, .slice (some ⟨w10.heap.size + 1, 0, none⟩) 1 1] 50]).heap.size (allocs w10 [.cells #[.int .i64 2] 3, .cells #[.int .i64 1] 3, .cells #[.slice (some ⟨w10.heap.size, 0, none⟩) 1 1, .slice (some ⟨w10.heap.size + 1, 0, none⟩) 1 1] 50]) w')) := Lib.hid (by
    have h1 := sameLists9_any fa (some ⟨w10.heap.size + 1 + 1, 0, none⟩) fc 2 ds [⟨[2], some ⟨w10.heap.size, 0, none⟩, 1⟩, ⟨[1], some ⟨w10.heap.size + 1, 0, none⟩, 1⟩] (allocs w10 [.cells #[.int .i64 2] 3, .cells #[.int .i64 1] 3, .cells #[.slice (some ⟨w10.heap.size, 0, none⟩) 1 1, .slice (some ⟨w10.heap.size + 1, 0, none⟩) 1 1] 50]) (hal.grown Hbl.out) (lit_L2 w10 [2] [1] 1 1 rfl rfl (by omega) (by omega))
    rw [lst_2 hdl hri e9D_fol0 e9D_fol1] at h1
    rw [show ds.length = 2 from hdl] at h1
    exact h1)
  clear hal hri hdl hb
  go_wp2_with (fail)
  refine Hs.out.mono ?_
  rintro e w11 ⟨rfl, hb⟩
  have HV11 := Lib.hid (HV10.out.trans ((Hbl.out.trans (hb.mono Hbl.out.size)).mono HV10.out.size))
  have HQ11 := Lib.hid (HQ10.out.trans ((Hbl.out.trans (hb.mono Hbl.out.size)).mono HQ10.out.size))
  clear hb Hs Hbl
  have Hbl := Lib.hid (allocs_below [.cells #[.int .i64 0] 3] w11)
  have hl9 : Ints w11 la lc [0] := Hl1.out.grown HQ11.out
  have Hs : Hid (Calls Try.prog 29 #[.slice la 1 lc, .slice (some ⟨w11.heap.size, 0, none⟩) 1 1] (allocs w11 [.cells #[.int .i64 0] 3]) (fun e w' => e = .returned (.bool true) ∧ Below (allocs w11 [.cells #[.int .i64 0] 3]).heap.size (allocs w11 [.cells #[.int .i64 0] 3]) w')) := Lib.hid (sameInts8_any la (some ⟨w11.heap.size, 0, none⟩) lc 1 [0] [0] (allocs w11 [.cells #[.int .i64 0] 3]) (hl9.grown Hbl.out) (lit_I w11 [0] 1 rfl (by omega)))
  clear hl9
  go_wp2_with (fail)
  refine Hs.out.mono ?_
  rintro e w12 ⟨rfl, hb⟩
  have HV12 := Lib.hid (HV11.out.trans ((Hbl.out.trans (hb.mono Hbl.out.size)).mono HV11.out.size))
  have HQ12 := Lib.hid (HQ11.out.trans ((Hbl.out.trans (hb.mono Hbl.out.size)).mono HQ11.out.size))
  clear hb Hs Hbl
  have hx : Blk w12 (h + 1 + 1 + 1 + 1 + 1 + 1 + 1 + 1 + 1 + 1 + 1 + 1 + 1) 41 [.slice (some ⟨h + 1 + 1 + 1 + 1 + 1 + 1, 0, none⟩) 2 2, .slice (some ⟨h + 1 + 1 + 1 + 1 + 1 + 1 + 1, 0, none⟩) 2 2, .slice (some ⟨h + 1 + 1 + 1 + 1 + 1 + 1 + 1 + 1 + 1 + 1 + 1 + 1, 0, none⟩) 2 2] := Hbd.out.below HV12.out Hbd.out.lt
  have x0 := hx.cell 0
  have x1 := hx.cell 1
  have x2 := hx.cell 2
  have xl := hx.lt
  simp only [List.getElem?_cons_zero, List.getElem?_cons_succ] at x0 x1 x2
  clear hx
  go_wp2_with (fail)
  clear x0 x1 x2 xl
  refine (Hsd.out w12 HV12.out).mono ?_
  rintro e w13 ⟨na, nc, rfl, ho, hb⟩
  have HV13 := Lib.hid (HV12.out.trans (hb.mono HV12.out.size))
  have HQ13 := Lib.hid (HQ12.out.trans (hb.mono HQ12.out.size))
  have hn13 : Ints w13 na nc [1, 0] := by
    have := ho.nus
    have e1 : ((List.range 2).map (fun r => Value.int .i64 (shP e9D r))) = [1, 0].map (Value.int .i64) := by
      show [Value.int .i64 (shP e9D 0), Value.int .i64 (shP e9D 1)] = _
      rw [e9D_sh0, e9D_sh1]
      rfl
    unfold NusF at this
    show Vs _ na nc _
    rw [← e1]
    exact this
  clear ho hb
  have Hbl := Lib.hid (allocs_below [.cells #[.int .i64 1, .int .i64 0] 3] w13)
  have Hs : Hid (Calls Try.prog 29 #[.slice na 2 nc, .slice (some ⟨w13.heap.size, 0, none⟩) 2 2] (allocs w13 [.cells #[.int .i64 1, .int .i64 0] 3]) (fun e w' => e = .returned (.bool true) ∧ Below (allocs w13 [.cells #[.int .i64 1, .int .i64 0] 3]).heap.size (allocs w13 [.cells #[.int .i64 1, .int .i64 0] 3]) w')) := Lib.hid (sameInts8_any na (some ⟨w13.heap.size, 0, none⟩) nc 2 [1, 0] [1, 0] (allocs w13 [.cells #[.int .i64 1, .int .i64 0] 3]) (hn13.grown Hbl.out) (lit_I w13 [1, 0] 2 rfl (by omega)))
  clear hn13
  go_wp2_with (fail)
  refine Hs.out.mono ?_
  rintro e w14 ⟨rfl, hb⟩
  have HV14 := Lib.hid (HV13.out.trans ((Hbl.out.trans (hb.mono Hbl.out.size)).mono HV13.out.size))
  have HQ14 := Lib.hid (HQ13.out.trans ((Hbl.out.trans (hb.mono Hbl.out.size)).mono HQ13.out.size))
  clear hb Hs Hbl
  have HB := Lib.hid (HwV.out.trans (HV14.out.mono hwV))
  go_wp2_with (fail)
  exact bodyPost_ret (v := .bool true) (by simp [results, Try.results19, go_sem]; try first | rfl | assumption | omega) rfl ⟨rfl, HB.out⟩
end Go.Proofs.Ytiopbjgpaidemaa

namespace Go.Proofs.Ytiopbjgpaidemaa
open Go.RowKit Go.Maps

attribute [local go_sem] Oper.semAt_some

/-- The shortest of the first alternatives. -/
def bst9 (V : Nat → Int) (l : List (List Int)) : Nat → Int
  | 0 => farI
  | j + 1 => match l[j]? with
    | some a => if bst9 V l j ≤ lenP V a then bst9 V l j else lenP V a
    | none => bst9 V l j
theorem bst9_step (V : Nat → Int) (l : List (List Int)) (j : Nat) (h : j < l.length) : bst9 V l (j + 1) = if bst9 V l j ≤ lenP V l[j] then bst9 V l j else lenP V l[j] := by
  rw [bst9, List.getElem?_eq_getElem h]
theorem bst9_le (V : Nat → Int) (l : List (List Int)) : ∀ j, bst9 V l j ≤ farI
  | 0 => Int.le_refl _
  | j + 1 => by
    have := bst9_le V l j
    rw [bst9]
    split
    · split <;> omega
    · exact this
theorem bst9_mem (V : Nat → Int) (l : List (List Int)) {a : List Int} : ∀ (j i : Nat), i < j → l[i]? = some a → bst9 V l j ≤ lenP V a
  | j + 1, i, h, ha => by
    rw [bst9]
    by_cases e : i = j
    · subst e
      rw [ha]
      dsimp only
      split <;> omega
    · have := bst9_mem V l j i (by omega) ha
      split
      · split <;> omega
      · exact this
theorem bst9_ge (V : Nat → Int) (l : List (List Int)) (m : Int) (hm : m ≤ farI) (h : ∀ a ∈ l, m ≤ lenP V a) : ∀ j, m ≤ bst9 V l j
  | 0 => hm
  | j + 1 => by
    have := bst9_ge V l m hm h j
    rw [bst9]
    cases e : l[j]? with
    | none => exact this
    | some a =>
      have := h a (List.mem_of_getElem? e)
      dsimp only
      split <;> omega
theorem bst9_is {al : List (List (List Int))} {r : Nat} : bst9 (shP al) (al.getD r []) (al.getD r []).length = shP al r := by
  refine Int.le_antisymm ?_ (bst9_ge _ _ _ (sh_le al r) (fun a ha => sh_alt ha) _)
  by_cases h : shP al r = farI
  · rw [h]; exact bst9_le _ _ _
  · obtain ⟨a, ha, e⟩ := sh_some h
    obtain ⟨i, hi, rfl⟩ := List.mem_iff_getElem.1 ha
    have := bst9_mem (shP al) (al.getD r []) (al.getD r []).length i hi (List.getElem?_eq_getElem hi)
    omega
set_option maxRecDepth 100000 in
set_option maxHeartbeats 16000000 in
theorem lawShort_any (d : CfD) (w : World) (hd : CfAt w d) (h1 : ∀ t ∈ d.toks, t.size ≤ maxLen) (h2 : ∀ t ∈ d.names, t.size ≤ maxLen) (h3 : ∀ r ∈ d.alts, ∀ a ∈ r.ds, ∀ x ∈ a.l, -9223372036854775808 ≤ x ∧ x ≤ 9223372036854775807) (hs : d.toks.length + d.names.length + szC (d.alts.map IrD.p) ≤ 1000000000000) :
    Calls Try.prog 8 #[d.v] w fun e w' => e = .returned (.bool true) ∧ Below w.heap.size w w' := by
  have HF := Lib.hid (fun W (hb : Below w.heap.size w W) => few9_any d W (hd.grown hb) h1 h2 h3 hs)
  have HS := Lib.hid (fun W (hb : Below w.heap.size w W) (hf : FitC d) => short_any d W (hd.grown hb) hf)
  have Hfit : Hid (few9 d = true → FitC d) := Lib.hid few9_fit
  have hAl : Hid (∀ k (h : k < d.alts.length), (d.alts.map IrD.p).getD k [] = (d.alts[k]).ds.map (fun x => x.l)) := Lib.hid (fun k h => by
    rw [List.getD_eq_getElem?_getD, List.getElem?_map, List.getElem?_eq_getElem h]
    rfl)
  obtain ⟨B, hB⟩ : ∃ q, Hid (few9 d = q) := ⟨_, Lib.hid rfl⟩
  rw [hB.out] at HF Hfit
  obtain ⟨xt, xta, xtc, xn, xna, xnc, xa, xaa, xac⟩ := d
  obtain ⟨hx1, hx2, hx3, hx4⟩ := hd
  dsimp only [CfD.v] at *
  have hb1 : Below w.heap.size w (w.alloc (.cells #[.slice xta xt.length xtc, .slice xna xn.length xnc, .slice xaa xa.length xac] 41)) := (Below.refl _ w).alloc (Nat.le_refl _) _
  have hA := Blk.new w 41 #[.slice xta xt.length xtc, .slice xna xn.length xnc, .slice xaa xa.length xac]
  have hxm : xa.length ≤ xac ∧ xac ≤ 9223372036854775807 := ⟨by have := hx3.le; rwa [List.length_map] at this, hx3.max⟩
  have HX3 := Lib.hid hx3
  have HX4 := Lib.hid hx4
  have HG : Hid (B = true → xa.length ≤ 60 ∧ (∀ r ∈ xa, r.ds.length ≤ 30) ∧ ∀ r ∈ xa, ∀ x ∈ r.ds, x.l.length ≤ 30 ∧ OkL xt.length xa.length x.l) := Lib.hid (fun h => ⟨(Hfit.out h).r, (Hfit.out h).a, (Hfit.out h).l⟩)
  have HSq : Hid (B = true → ∀ W, Below w.heap.size w W → Calls Try.prog 30 #[.agg #[.slice xta xt.length xtc, .slice xna xn.length xnc, .slice xaa xa.length xac]] W (ShQ W xa.length (shP (xa.map IrD.p)))) := Lib.hid (fun h W hb => HS.out W hb (Hfit.out h))
  obtain ⟨al, hal9⟩ : ∃ q, Hid (xa.map IrD.p = q) := ⟨_, Lib.hid rfl⟩
  rw [hal9.out] at hAl HSq
  have Hbest := Lib.hid (fun r => bst9_is (al := al) (r := r))
  obtain ⟨T, HT⟩ : ∃ q, Hid (xt.length = q) := ⟨_, Lib.hid rfl⟩
  obtain ⟨N, HN⟩ : ∃ q, Hid (xn.length = q) := ⟨_, Lib.hid rfl⟩
  obtain ⟨L, HL⟩ : ∃ q, Hid (xa.length = q) := ⟨_, Lib.hid rfl⟩
  rw [HT.out, HN.out, HL.out] at hA hb1 HF HSq ⊢
  rw [HL.out] at hxm HG
  have HF' : Hid (∀ W, Below w.heap.size w W → Calls Try.prog 20 #[.agg #[.slice xta T xtc, .slice xna N xnc, .slice xaa L xac]] W fun e w' => e = .returned (.bool B) ∧ Below W.heap.size W w') := HF
  have x0 := hA.cell 0
  have x1 := hA.cell 1
  have x2 := hA.cell 2
  have xl := hA.lt
  simp only [List.getElem?_cons_zero, List.getElem?_cons_succ] at x0 x1 x2
  have HA := Lib.hid hA
  have Hb1 := Lib.hid hb1
  clear hA hx1 hx2 hx3 hx4 hb1 h1 h2 h3 hs HF HS Hfit
  go_enter Try.func8, Try.ntmps8
  go_wp2_with (fail)
  obtain ⟨bx, hbx⟩ : ∃ q, Hid (w.heap.size = q) := ⟨_, Lib.hid rfl⟩
  rw [hbx.out] at HA xl x0 x1 x2 ⊢
  generalize hV : World.alloc w _ = V1 at HA x0 x1 x2 xl Hb1 ⊢
  clear hV
  refine (live9_any V1).mono ?_
  rintro e w2 ⟨rfl, hb2⟩
  have HA2 := Lib.hid (HA.out.below hb2 HA.out.lt)
  have Hb2 := Lib.hid (Hb1.out.trans (hb2.mono Hb1.out.size))
  clear x0 x1 x2 xl hb2
  have x0 := HA2.out.cell 0
  have x1 := HA2.out.cell 1
  have x2 := HA2.out.cell 2
  have xl := HA2.out.lt
  simp only [List.getElem?_cons_zero, List.getElem?_cons_succ] at x0 x1 x2
  go_wp2_with (fail)
  refine (HF'.out w2 Hb2.out).mono ?_
  rintro e w3 ⟨rfl, hb3⟩
  have HA3 := Lib.hid (HA2.out.below hb3 HA2.out.lt)
  have Hb3 := Lib.hid (Hb2.out.trans (hb3.mono Hb2.out.size))
  clear x0 x1 x2 xl hb3 HF'
  cases B
  · go_wp2_with (fail)
    exact bodyPost_ret (v := .bool true) (by simp [results, Try.results8, go_sem]; try first | rfl | assumption | omega) rfl ⟨rfl, Hb3.out⟩
  have HSq2 := Lib.hid (HSq.out rfl)
  obtain ⟨hl60, hf4, hf5⟩ := HG.out rfl
  have HF4 := Lib.hid hf4
  have HF5 := Lib.hid hf5
  clear HG HSq hf4 hf5
  have x0 := HA3.out.cell 0
  have x1 := HA3.out.cell 1
  have x2 := HA3.out.cell 2
  have xl := HA3.out.lt
  simp only [List.getElem?_cons_zero, List.getElem?_cons_succ] at x0 x1 x2
  go_wp2_with (fail)
  refine (HSq2.out w3 Hb3.out).mono ?_
  rintro e w4 ⟨sa, sc, rfl, ho, hb4⟩
  have HA4 := Lib.hid (HA3.out.below hb4 HA3.out.lt)
  have Hb4 := Lib.hid (Hb3.out.trans (hb4.mono Hb3.out.size))
  have HO := Lib.hid ho.nus
  have hsm : L ≤ sc ∧ sc ≤ 9223372036854775807 := ⟨by have := HO.out.le; simpa using this, HO.out.max⟩
  have Hv0 := Lib.hid (fun r => sh_nonneg al r)
  have Hv1 := Lib.hid (fun r => sh_le al r)
  obtain ⟨F, hF⟩ : ∃ q, Hid (shP al = q) := ⟨_, Lib.hid rfl⟩
  rw [hF.out] at HO Hv0 Hv1 Hbest
  clear x0 x1 x2 xl hb4 ho HSq2
  have x2 := HA4.out.cell 2
  have xl := HA4.out.lt
  simp only [List.getElem?_cons_zero, List.getElem?_cons_succ] at x2
  go_wp2_with (fail)
  clear x2 xl
  go_loopw [29] (fun iv wr => ∃ k : Nat, k ≤ L ∧ iv = .int .i64 (k : Int) ∧ wr = w4) (fun iv _ => L - (RowKit.intOf iv).toNat)
  case atStart => exact ⟨0, Nat.zero_le _, rfl, rfl⟩
  case round =>
    obtain ⟨k, hk, rfl, hwr⟩ := hrel
    subst hwr
    obtain ⟨U, rfl⟩ : ∃ U, U = wr := ⟨_, rfl⟩
    by_cases hlt : k < L
    · have hkI : (k : Int) < (L : Int) := by omega
      have hkI0 : (0 : Int) ≤ (k : Int) := by omega
      have hkl : k < xa.length := by rw [HL.out]; exact hlt
      have hrow := HX3.out.grown Hb4.out
      have hst := hAl.out k hkl
      obtain ⟨p, po, hp⟩ := hrow.at_ k (by rw [List.length_map]; exact hkl)
      have cp := hrow.cell p po hp k (by rw [List.length_map]; exact hkl)
      rw [List.getElem_map] at cp
      have hm : xa[k] ∈ xa := List.getElem_mem hkl
      obtain ⟨e, he⟩ : ∃ v, Hid (xa[k] = v) := ⟨_, Lib.hid rfl⟩
      rw [he.out] at cp hm hst
      have hblp := World.block_lt_of_cell? _ _ cp
      obtain ⟨ed, ea, ec⟩ := e
      change _ = some (Value.slice ea ed.length ec) at cp
      have hal : AltsI w ea ec ed := HX4.out _ hm
      have hdm : ed.length ≤ ec ∧ ec ≤ 9223372036854775807 := ⟨by have := hal.row.le; rwa [List.length_map] at this, hal.row.max⟩
      have hd30 : ed.length ≤ 30 := HF4.out _ hm
      have hok := Lib.hid (HF5.out _ hm)
      have Hal := Lib.hid hal
      have hbk := Hbest.out k
      rw [hst] at hbk
      have Hbs := Lib.hid (fun j (hj : j < ed.length) => bst9_step F (ed.map (fun x => x.l)) j (by rw [List.length_map]; exact hj))
      obtain ⟨Bt, hBt⟩ : ∃ q, Hid (bst9 F (ed.map (fun x => x.l)) = q) := ⟨_, Lib.hid rfl⟩
      have HB0 : Hid (Bt 0 = 2147483647) := Lib.hid (by rw [← hBt.out]; rfl)
      have HBl : Hid (∀ j, Bt j ≤ 2147483647) := Lib.hid (fun j => by rw [← hBt.out]; exact bst9_le _ _ j)
      have HBg : Hid (∀ j, 0 ≤ Bt j) := Lib.hid (fun j => by rw [← hBt.out]; exact bst9_ge _ _ 0 (by decide) (fun a _ => len_nonneg (fun x _ _ => Hv0.out _)) j)
      rw [hBt.out] at Hbs hbk
      rw [List.length_map] at hbk
      obtain ⟨M, hM⟩ : ∃ q, Hid (ed.length = q) := ⟨_, Lib.hid rfl⟩
      rw [hM.out] at cp hdm hd30 hbk
      have Hbk := Lib.hid hbk
      obtain ⟨q0, qo, hq⟩ := HO.out.at_ k (by simpa using hlt)
      have cq := HO.out.cell q0 qo hq k (by simpa using hlt)
      rw [range_at] at cq
      have Hcq := Lib.hid cq
      have Hpb := Lib.hid (World.block_lt_of_cell? _ _ cq)
      subst hp
      subst hq
      clear hm hal hrow hst hbk cq
      go_wp2_with (fail)
      clear cp hblp
      go_loopw [7, 36] (fun sv jv wr => ∃ j : Nat, j ≤ M ∧ jv = .int .i64 (j : Int) ∧ sv = .int .i64 (Bt j) ∧ wr = U) (fun _ jv _ => M - (RowKit.intOf jv).toNat)
      case atStart => exact ⟨0, Nat.zero_le _, rfl, by rw [HB0.out], rfl⟩
      case round =>
        obtain ⟨j, hj, rfl, rfl, hwr⟩ := hrel
        subst hwr
        obtain ⟨U2, rfl⟩ : ∃ U, U = wr := ⟨_, rfl⟩
        by_cases hltj : j < M
        · have hjI : (j : Int) < (M : Int) := by omega
          have hjI0 : (0 : Int) ≤ (j : Int) := by omega
          have hjl : j < ed.length := by rw [hM.out]; exact hltj
          have hrow := Hal.out.row.grown Hb4.out
          have hok2 := hok.out _ (List.getElem_mem hjl)
          have hnm := (Hal.out.nms _ (List.getElem_mem hjl)).grown Hb4.out
          have hbs := Hbs.out j hjl
          rw [List.getElem_map] at hbs
          have hbj := HBl.out j
          have hbj0 := HBg.out j
          obtain ⟨c, co, hc⟩ := hrow.at_ j (by rw [List.length_map]; exact hjl)
          have cc := hrow.cell c co hc j (by rw [List.length_map]; exact hjl)
          rw [List.getElem_map] at cc
          obtain ⟨e, he⟩ : ∃ v, Hid (ed[j] = v) := ⟨_, Lib.hid rfl⟩
          rw [he.out] at cc hok2 hnm hbs
          have hblc := World.block_lt_of_cell? _ _ cc
          obtain ⟨el, ela, elc⟩ := e
          change _ = some (Value.slice ela el.length elc) at cc
          dsimp only at hok2 hnm hbs
          have hem : el.length ≤ elc ∧ elc ≤ 9223372036854775807 := ⟨by have := hnm.le; rwa [List.length_map] at this, hnm.max⟩
          have Hnm := Lib.hid hnm
          have Hok2 := Lib.hid hok2.2
          have hel := hok2.1
          have Hst := Lib.hid (len_take F el)
          have Hbd : Hid (∀ i, i ≤ el.length → 0 ≤ lenP F (el.take i) ∧ lenP F (el.take i) ≤ 2147483647000000) := Lib.hid (fun i h => by
            refine ⟨len_nonneg (fun x _ _ => Hv0.out _), ?_⟩
            have h1 := len_upper (V := F) (B := farI) (by decide) (s := el.take i) (fun x _ _ => Hv1.out _)
            rw [List.length_take, Nat.min_eq_left h] at h1
            have h2 : (i : Int) * farI ≤ 1000000 * farI := Int.mul_le_mul_of_nonneg_right (by omega) (by decide)
            have h3 : (1000000 : Int) * farI = 2147483647000000 := by decide
            omega)
          obtain ⟨g, hg⟩ : ∃ g : Nat → Int, Hid ((fun i => lenP F (el.take i)) = g) := ⟨_, Lib.hid rfl⟩
          have hg2 : ∀ i, lenP F (el.take i) = g i := fun i => congrFun hg.out i
          have hge : lenP F el = g el.length := by rw [← hg2, List.take_length]
          have Hst2 : Hid (∀ i (h : i < el.length), g (i + 1) = g i + (if el[i] < 0 then F (ruL el[i]) else 1)) := Lib.hid (fun i h => by rw [← hg2, ← hg2]; exact Hst.out i h)
          have Hbd2 : Hid (∀ i, i ≤ el.length → 0 ≤ g i ∧ g i ≤ 2147483647000000) := Lib.hid (fun i h => by rw [← hg2]; exact Hbd.out i h)
          have Hg0 : Hid (g 0 = 0) := Lib.hid (by rw [← hg2]; rfl)
          rw [hge] at hbs
          obtain ⟨E, hE⟩ : ∃ q, Hid (el.length = q) := ⟨_, Lib.hid rfl⟩
          rw [hE.out] at cc hem hel hbs Hbd2
          have Hbsj := Lib.hid hbs
          have hgE := Hbd2.out E (Nat.le_refl _)
          obtain ⟨bj, hbje⟩ : ∃ q, Hid (Bt j = q) := ⟨_, Lib.hid rfl⟩
          rw [hbje.out] at hbj hbj0 Hbsj ⊢
          subst hc
          clear hrow hok2 hnm hbs Hst Hbd hg hg2 hge
          go_wp2_with (fail)
          clear cc hblc
          go_loopw [10, 42] (fun sv iv wr => ∃ i : Nat, i ≤ E ∧ iv = .int .i64 (i : Int) ∧ sv = .int .i64 (g i) ∧ wr = U2) (fun _ iv _ => E - (RowKit.intOf iv).toNat)
          case atStart => exact ⟨0, Nat.zero_le _, rfl, by rw [Hg0.out], rfl⟩
          case round =>
            obtain ⟨i, hi, rfl, rfl, hwr⟩ := hrel
            subst hwr
            have hbi := Hbd2.out i hi
            by_cases hlti : i < E
            · have hiI : (i : Int) < (E : Int) := by omega
              have hiI0 : (0 : Int) ≤ (i : Int) := by omega
              have hil : i < el.length := by rw [hE.out]; exact hlti
              have hst := Hst2.out i hil
              have hbi2 := Hbd2.out (i + 1) (by omega)
              obtain ⟨a, ao, ha⟩ := Hnm.out.at_ i (by rw [List.length_map]; exact hil)
              have ca := Hnm.out.cell a ao ha i (by rw [List.length_map]; exact hil)
              rw [List.getElem_map] at ca
              have hm := Hok2.out _ (List.getElem_mem hil)
              obtain ⟨x, hx⟩ : ∃ v, Hid (el[i] = v) := ⟨_, Lib.hid rfl⟩
              rw [hx.out] at ca hm hst
              have hbla := World.block_lt_of_cell? _ _ ca
              subst ha
              obtain ⟨gi, hgi⟩ : ∃ q, Hid (g i = q) := ⟨_, Lib.hid rfl⟩
              rw [hgi.out] at hst hbi ⊢
              by_cases h0 : x < 0
              · obtain ⟨r, rfl⟩ : ∃ r : Nat, x = -1 - (r : Int) := ⟨ruL x, (of_ruL h0).symm⟩
                rw [if_pos h0, ruL_of] at hst
                have hrn : r < L := by omega
                have hrI : (r : Int) < (L : Int) := by omega
                have hrI0 : (0 : Int) ≤ (r : Int) := by omega
                obtain ⟨b2, o2, ha2⟩ := HO.out.at_ r (by simpa using hrn)
                have c2 := HO.out.cell b2 o2 ha2 r (by simpa using hrn)
                rw [range_at] at c2
                injection ha2 with ha2
                injection ha2 with ha2 ha3
                subst ha2
                subst ha3
                have hbl2 := World.block_lt_of_cell? _ _ c2
                have hfr := Hv1.out r
                have hfr0 := Hv0.out r
                obtain ⟨fr, hfr2⟩ : ∃ q, Hid (F r = q) := ⟨_, Lib.hid rfl⟩
                rw [hfr2.out] at c2 hst hfr hfr0
                have HST := Lib.hid hst
                have hw : IntKind.i64.wrap (gi + fr) = gi + fr := IntWalk.i64_in _ (by omega)
                have hw2 : IntKind.i64.wrap (-1 - (-1 - (r : Int))) = (r : Int) := by rw [show (-1 - (-1 - (r : Int))) = (r : Int) by omega]; exact IntWalk.i64_in _ (by omega)
                have hge0 : ¬ (0 : Int) ≤ -1 - (r : Int) := by omega
                clear hm hst hbi2
                go_wp2_with (fail)
                exact ⟨⟨i + 1, by omega, by go_num, by rw [HST.out], by first | rfl | trivial⟩, by simp [RowKit.intOf]; omega⟩
              · rw [if_neg h0] at hst
                have HST := Lib.hid hst
                have hw : IntKind.i64.wrap (gi + 1) = gi + 1 := IntWalk.i64_in _ (by omega)
                have hge0 : (0 : Int) ≤ x := by omega
                clear hm hst hbi2
                go_wp2_with (fail)
                exact ⟨⟨i + 1, by omega, by go_num, by rw [HST.out], by first | rfl | trivial⟩, by simp [RowKit.intOf]; omega⟩
            · have hie : i = E := by omega
              have hiI : ¬ (i : Int) < (E : Int) := by omega
              rw [hie]
              obtain ⟨gE, hgE2⟩ : ∃ q, Hid (g E = q) := ⟨_, Lib.hid rfl⟩
              rw [hgE2.out] at Hbsj ⊢
              by_cases hmin : bj ≤ gE
              · have HB1 : Hid (Bt (j + 1) = bj) := Lib.hid (by rw [Hbsj.out, if_pos hmin])
                clear hie
                go_wp2_with (fail)
                exact ⟨⟨j + 1, by omega, by go_num, by rw [HB1.out, Int.min_eq_left hmin], by first | rfl | trivial⟩, by simp [RowKit.intOf]; omega⟩
              · have HB1 : Hid (Bt (j + 1) = gE) := Lib.hid (by rw [Hbsj.out, if_neg hmin])
                clear hie
                go_wp2_with (fail)
                exact ⟨⟨j + 1, by omega, by go_num, by rw [HB1.out, Int.min_eq_right (by omega)], by first | rfl | trivial⟩, by simp [RowKit.intOf]; omega⟩
        · have hje : j = M := by omega
          have hjI : ¬ (j : Int) < (M : Int) := by omega
          rw [hje, Hbk.out]
          obtain ⟨fk, hfk⟩ : ∃ q, Hid (F k = q) := ⟨_, Lib.hid rfl⟩
          have cq := Hcq.out
          have hpb := Hpb.out
          rw [hfk.out] at cq ⊢
          clear hje
          go_wp2_with (fail)
          exact ⟨⟨k + 1, by omega, by go_num, by first | rfl | trivial⟩, by simp [RowKit.intOf]; omega⟩
    · have hke : k = L := by omega
      have hkI : ¬ (k : Int) < (L : Int) := by omega
      clear hke
      go_wp2_with (fail)
      exact bodyPost_ret (v := .bool true) (by simp [results, Try.results8, go_sem]; try first | rfl | assumption | omega) rfl ⟨rfl, Hb4.out⟩
end Go.Proofs.Ytiopbjgpaidemaa

namespace Go.Proofs.Ytiopbjgpaidemaa
open Go.ChangeShapes Go.WideShapes Go.ChangeAt Go.RowKit

attribute [local go_sem] Oper.semAt_some

/-- What an int may be. -/
def Bd (x : Int) : Prop := -9223372036854775808 ≤ x ∧ x ≤ 9223372036854775807
theorem wf_bd {n : Int} (h : (Go.Lit.int .i64 n).wf = true) : Bd n := by
  unfold Bd
  simp [Go.Lit.wf, IntKind.min, IntKind.max, IntKind.signed, IntKind.bits] at h
  omega
theorem int_cells8 : Try.prog.cellsOf 3 = 1 := by kernel_rfl
theorem ints_cells8 : Try.prog.cellsOf 50 = 1 := by kernel_rfl
theorem intss_cells8 : Try.prog.cellsOf 47 = 1 := by kernel_rfl
theorem intsss_cells8 : Try.prog.cellsOf 39 = 1 := by kernel_rfl
theorem cfg_cells8 : Try.prog.cellsOf 41 = 3 := by kernel_rfl
def szIl (ds : List IltD) : Nat := (ds.map (fun d => d.l.length)).sum
theorem szIl_is (r : IrD) : r.ds.length + szIl r.ds = szJ r.p := by
  unfold szJ szIl IrD.p
  rw [List.length_map, List.map_map]
  rfl

set_option maxRecDepth 100000 in
theorem open_intl2 {H : Type} {enc : TypeId × Value → H} {W : World} {base : Nat} {sp : Nat → Bool} {hd : Bool} (fuel : Nat) (cs : List Value) (x : DataW H × List MemPlace) (h : DataW.trod enc Try.prog W base sp hd fuel 50 cs = some x) :
    ∃ d : IltD, cs = [.slice d.a d.l.length d.c] ∧ Ints W d.a d.c d.l ∧ (∀ n ∈ d.l, Bd n) ∧ d.l.length + 1 ≤ Rows.uptoBulk x.1 := by
  rcases DataW.trod_slice Try.underlying50 h with ⟨e3, _⟩ | ⟨a, len, cap, elems, rest, n', hn, e3, x3, hb, hle, hm, hel, hcell, _, _⟩
  · exact ⟨⟨[], none, 0⟩, by rw [e3]; rfl, Vs.nil W, fun n h => (by cases h), by simpa using bulk_pos x.1⟩
  · have hmax : maxLen ≤ 9223372036854775807 := by decide
    have hbk : len + 1 ≤ Rows.uptoBulk x.1 := by
      rw [x3]
      simp only [Rows.uptoBulk]
      have h1 := bulkAll_sum (elems.map (·.1))
      have h2 := sum_le8 (fun _ => 1) Rows.uptoBulk (elems.map (·.1)) (elems.map (·.1)) rfl (fun i h1 h2 => bulk_pos _)
      rw [sum_ones, List.length_map, hel] at h2
      omega
    have each : ∀ i, i < len → ∃ s : Int, W.cell? ((a.add (i * 1)).add 0) = some (.int .i64 s) ∧ Bd s := by
      intro i hi
      have hc := hcell i hi
      rw [List.getElem?_eq_getElem (by omega), int_cells8, Option.bind_eq_some_iff] at hc
      obtain ⟨cs', hcs, ht⟩ := hc
      obtain ⟨s, e0, _, ws0⟩ := DataW.trod_int Try.underlying3 ht
      have ws := wf_bd ws0
      subst e0
      exact ⟨s, (World.cells?_some hcs).2.2 0 (by omega), ws⟩
    by_cases h0 : len = 0
    · subst h0
      exact ⟨⟨[], some a, cap⟩, by rw [e3]; rfl, ⟨by simp, (show cap ≤ 9223372036854775807 by omega), fun e => (by cases e), fun i h => by simp at h, fun b off e i h => by simp at h⟩, fun n h => (by cases h), by simpa using bulk_pos x.1⟩
    · obtain ⟨b, off, spot⟩ := a
      have hspot : spot = none := by
        obtain ⟨s, hc, _⟩ := each 0 (by omega)
        simpa [Addr.add] using World.cell?_spot hc
      subst hspot
      have each2 : ∀ i, i < len → ∃ s : Int, W.cell? ⟨b, off + i, none⟩ = some (.int .i64 s) ∧ Bd s := by
        intro i hi
        obtain ⟨s, hc, hz⟩ := each i hi
        rw [add_plain, add_plain, Nat.mul_one, Nat.add_zero] at hc
        exact ⟨s, hc, hz⟩
      obtain ⟨l, hl1, hl2⟩ := row_of len each2
      refine ⟨⟨l, some ⟨b, off, none⟩, cap⟩, by rw [e3, hl1], ⟨by rw [List.length_map]; exact (show l.length ≤ cap by omega), (show cap ≤ 9223372036854775807 by omega), fun e => (by cases e), fun i _ => ⟨b, off, rfl⟩, fun b' off' e i hi => ?_⟩, fun n hn => ?_, by show l.length + 1 ≤ _; omega⟩
      · cases e
        rw [List.getElem_map]
        exact (hl2 i (by rwa [List.length_map] at hi)).1
      · obtain ⟨i, hi, rfl⟩ := List.getElem_of_mem hn
        exact (hl2 i hi).2

set_option maxRecDepth 100000 in
theorem open_intll2 {H : Type} {enc : TypeId × Value → H} {W : World} {base : Nat} {sp : Nat → Bool} {hd : Bool} (fuel : Nat) (cs : List Value) (x : DataW H × List MemPlace) (h : DataW.trod enc Try.prog W base sp hd fuel 47 cs = some x) :
    ∃ (ds : List IltD) (a : Option Addr) (c : Nat), cs = [.slice a ds.length c] ∧ AltsI W a c ds ∧ (∀ d ∈ ds, ∀ n ∈ d.l, Bd n) ∧ ds.length + szIl ds + 1 ≤ Rows.uptoBulk x.1 := by
  rcases DataW.trod_slice Try.underlying47 h with ⟨e3, _⟩ | ⟨a, len, cap, elems, rest, n', hn, e3, x3, hb, hle, hm, hel, hcell, _, _⟩
  · exact ⟨[], none, 0, by rw [e3]; rfl, ⟨Vs.nil W, fun d h => by cases h⟩, fun d h => (by cases h), by simpa [szIl] using bulk_pos x.1⟩
  · have hmax : maxLen ≤ 9223372036854775807 := by decide
    have each : ∀ i (hi : i < len), ∃ d : IltD, W.cell? ((a.add (i * 1)).add 0) = some d.v ∧ Ints W d.a d.c d.l ∧ (∀ n ∈ d.l, Bd n) ∧ d.l.length + 1 ≤ Rows.uptoBulk (elems[i]'(by omega)).1 := by
      intro i hi
      have hc := hcell i hi
      rw [List.getElem?_eq_getElem (by omega), ints_cells8, Option.bind_eq_some_iff] at hc
      obtain ⟨cs', hcs, ht⟩ := hc
      obtain ⟨d, rfl, hN, hz, hk⟩ := open_intl2 n' cs' _ ht
      exact ⟨d, (World.cells?_some hcs).2.2 0 (by omega), hN, hz, hk⟩
    by_cases h0 : len = 0
    · subst h0
      exact ⟨[], some a, cap, by rw [e3]; rfl, ⟨⟨by simp, by omega, fun e => (by cases e), fun i h => by simp at h, fun b off e i h => by simp at h⟩, fun d hd => by cases hd⟩, fun d h => (by cases h), by simpa [szIl] using bulk_pos x.1⟩
    · obtain ⟨b, off, spot⟩ := a
      have hspot : spot = none := by
        obtain ⟨s, hc, _⟩ := each 0 (by omega)
        simpa [Addr.add] using World.cell?_spot hc
      subst hspot
      obtain ⟨l, hl1, hl2, hl3⟩ := row_of2 (P := fun i (d : IltD) => W.cell? ⟨b, off + i, none⟩ = some d.v ∧ Ints W d.a d.c d.l ∧ ∀ n ∈ d.l, Bd n) (f := fun d : IltD => d.l.length + 1) (g := Rows.uptoBulk) (elems.map (·.1)) len (by rw [List.length_map, hel]) (fun i hi => by
        obtain ⟨d, hc, hN, hz, hk⟩ := each i (by rw [List.length_map] at hi; omega)
        rw [add_plain, add_plain, Nat.mul_one, Nat.add_zero] at hc
        exact ⟨d, ⟨hc, hN, hz⟩, by rw [List.getElem_map]; exact hk⟩)
      refine ⟨l, some ⟨b, off, none⟩, cap, by rw [e3, hl1], ⟨⟨by rw [List.length_map]; omega, by omega, fun e => (by cases e), fun i _ => ⟨b, off, rfl⟩, fun b' off' e i hi => ?_⟩, fun d hd => ?_⟩, fun d hd => ?_, ?_⟩
      · cases e
        rw [List.getElem_map]
        exact (hl2 i (by rwa [List.length_map] at hi)).1
      · obtain ⟨i, hi, rfl⟩ := List.getElem_of_mem hd
        exact (hl2 i hi).2.1
      · obtain ⟨i, hi, rfl⟩ := List.getElem_of_mem hd
        exact (hl2 i hi).2.2
      · rw [x3]
        simp only [Rows.uptoBulk]
        rw [bulkAll_sum (elems.map (·.1))]
        have h4 : (l.map (fun d : IltD => d.l.length + 1)).sum = l.length + szIl l := by
          clear hl1 hl2 hl3
          induction l with
          | nil => simp [szIl]
          | cons d l ih =>
            have e : szIl (d :: l) = d.l.length + szIl l := by simp [szIl]
            rw [List.map_cons, List.sum_cons, ih, e, List.length_cons]
            omega
        omega

set_option maxRecDepth 100000 in
theorem open_intlll2 {H : Type} {enc : TypeId × Value → H} {W : World} {base : Nat} {sp : Nat → Bool} {hd : Bool} (fuel : Nat) (cs : List Value) (x : DataW H × List MemPlace) (h : DataW.trod enc Try.prog W base sp hd fuel 39 cs = some x) :
    ∃ (al : List IrD) (a : Option Addr) (c : Nat), cs = [.slice a al.length c] ∧ Vs W a c (al.map IrD.v) ∧ (∀ r ∈ al, AltsI W r.a r.c r.ds) ∧ (∀ r ∈ al, ∀ d ∈ r.ds, ∀ n ∈ d.l, Bd n) ∧ al.length + szC (al.map IrD.p) + 1 ≤ Rows.uptoBulk x.1 := by
  rcases DataW.trod_slice Try.underlying39 h with ⟨e3, _⟩ | ⟨a, len, cap, elems, rest, n', hn, e3, x3, hb, hle, hm, hel, hcell, _, _⟩
  · exact ⟨[], none, 0, by rw [e3]; rfl, Vs.nil W, fun d h => (by cases h), fun d h => (by cases h), by simpa [szC] using bulk_pos x.1⟩
  · have hmax : maxLen ≤ 9223372036854775807 := by decide
    have each : ∀ i (hi : i < len), ∃ r : IrD, W.cell? ((a.add (i * 1)).add 0) = some r.v ∧ AltsI W r.a r.c r.ds ∧ (∀ d ∈ r.ds, ∀ n ∈ d.l, Bd n) ∧ szJ r.p + 1 ≤ Rows.uptoBulk (elems[i]'(by omega)).1 := by
      intro i hi
      have hc := hcell i hi
      rw [List.getElem?_eq_getElem (by omega), intss_cells8, Option.bind_eq_some_iff] at hc
      obtain ⟨cs', hcs, ht⟩ := hc
      obtain ⟨ds, ra, rc, rfl, hN, hz, hk⟩ := open_intll2 n' cs' _ ht
      have hk2 := szIl_is ⟨ds, ra, rc⟩
      dsimp only at hk2
      exact ⟨⟨ds, ra, rc⟩, (World.cells?_some hcs).2.2 0 (by omega), hN, hz, by omega⟩
    by_cases h0 : len = 0
    · subst h0
      exact ⟨[], some a, cap, by rw [e3]; rfl, ⟨by simp, by omega, fun e => (by cases e), fun i h => by simp at h, fun b off e i h => by simp at h⟩, fun d h => (by cases h), fun d h => (by cases h), by simpa [szC] using bulk_pos x.1⟩
    · obtain ⟨b, off, spot⟩ := a
      have hspot : spot = none := by
        obtain ⟨s, hc, _⟩ := each 0 (by omega)
        simpa [Addr.add] using World.cell?_spot hc
      subst hspot
      obtain ⟨l, hl1, hl2, hl3⟩ := row_of2 (P := fun i (r : IrD) => W.cell? ⟨b, off + i, none⟩ = some r.v ∧ AltsI W r.a r.c r.ds ∧ ∀ d ∈ r.ds, ∀ n ∈ d.l, Bd n) (f := fun r : IrD => szJ r.p + 1) (g := Rows.uptoBulk) (elems.map (·.1)) len (by rw [List.length_map, hel]) (fun i hi => by
        obtain ⟨d, hc, hN, hz, hk⟩ := each i (by rw [List.length_map] at hi; omega)
        rw [add_plain, add_plain, Nat.mul_one, Nat.add_zero] at hc
        exact ⟨d, ⟨hc, hN, hz⟩, by rw [List.getElem_map]; exact hk⟩)
      refine ⟨l, some ⟨b, off, none⟩, cap, by rw [e3, hl1], ⟨by rw [List.length_map]; omega, by omega, fun e => (by cases e), fun i _ => ⟨b, off, rfl⟩, fun b' off' e i hi => ?_⟩, fun d hd => ?_, fun d hd => ?_, ?_⟩
      · cases e
        rw [List.getElem_map]
        exact (hl2 i (by rwa [List.length_map] at hi)).1
      · obtain ⟨i, hi, rfl⟩ := List.getElem_of_mem hd
        exact (hl2 i hi).2.1
      · obtain ⟨i, hi, rfl⟩ := List.getElem_of_mem hd
        exact (hl2 i hi).2.2
      · rw [x3]
        simp only [Rows.uptoBulk]
        rw [bulkAll_sum (elems.map (·.1))]
        have h4 : (l.map (fun r : IrD => szJ r.p + 1)).sum = l.length + szC (l.map IrD.p) := by
          clear hl1 hl2 hl3
          induction l with
          | nil => simp [szC]
          | cons d l ih =>
            have e : szC ((d :: l).map IrD.p) = szJ d.p + szC (l.map IrD.p) := by simp [szC, szJ]
            rw [List.map_cons, List.sum_cons, ih, e, List.length_cons]
            omega
        omega

set_option maxRecDepth 100000 in
theorem open_cfg2 {H : Type} {enc : TypeId × Value → H} {W : World} {v : Value} {d : DataW H} {ps : List MemPlace} (hok : Value.okWide Try.prog W .any 0 41 v) (h : DataW.Trod enc Try.prog W 0 (fun _ => true) true 41 v d ps) :
    ∃ c : CfD, v = c.v ∧ CfAt W c ∧ (∀ t ∈ c.toks, t.size ≤ maxLen) ∧ (∀ t ∈ c.names, t.size ≤ maxLen) ∧ (∀ r ∈ c.alts, ∀ a ∈ r.ds, ∀ x ∈ a.l, Bd x) ∧ c.toks.length + c.names.length + szC (c.alts.map IrD.p) ≤ Rows.uptoBulk d := by
  obtain ⟨cs, rfl, _⟩ := okWide_struct Try.underlying41 hok
  obtain ⟨fuel, hf⟩ := h
  obtain ⟨xs, n, rfl, e9, hl, hlen, hf⟩ := DataW.trod_struct Try.underlying41 hf
  rw [cfg_cells8] at hl
  obtain ⟨v0, v1, v2, hv⟩ : ∃ v0 v1 v2, cs.toList = [v0, v1, v2] := by
    match hc : cs.toList, (show cs.toList.length = 3 from hl) with
    | [v0, v1, v2], _ => exact ⟨v0, v1, v2, rfl⟩
  obtain ⟨y0, y1, y2, rfl⟩ : ∃ y0 y1 y2, xs = [y0, y1, y2] := by
    match xs, hlen with
    | [y0, y1, y2], _ => exact ⟨y0, y1, y2, rfl⟩
  have h0 := hf 0 _ rfl
  have h1 := hf 1 _ rfl
  have h2 := hf 2 _ rfl
  rw [show (Value.agg cs).cells.toList = [v0, v1, v2] from hv] at h0 h1 h2
  simp only [strs_cells, intsss_cells8, List.drop_zero, List.drop_succ_cons, List.take_succ_cons, List.take_zero, List.getElem?_cons_zero, List.getElem?_cons_succ] at h0 h1 h2
  obtain ⟨dt, e0, hT, zT, kT⟩ := open_strl2 _ _ _ h0
  injection e0 with e0 _
  subst e0
  obtain ⟨dn, e1, hN, zN, kN⟩ := open_strl2 _ _ _ h1
  injection e1 with e1 _
  subst e1
  obtain ⟨al, aa, ac, e2, hR, hI, hB, hk⟩ := open_intlll2 _ _ _ h2
  injection e2 with e2 _
  subst e2
  have e9 := (Prod.mk.inj e9).1
  refine ⟨⟨dt.l, dt.a, dt.c, dn.l, dn.a, dn.c, al, aa, ac⟩, ?_, ⟨hT, hN, hR, hI⟩, zT, zN, hB, ?_⟩
  · cases cs
    simp only at hv
    rw [hv]
  · rw [e9]
    simp only [List.map_cons, List.map_nil, Rows.uptoBulk, Rows.uptoBulkAll]
    omega
end Go.Proofs.Ytiopbjgpaidemaa

namespace Go.Proofs.Ytiopbjgpaidemaa
open Go.ChangeShapes Go.WideShapes Go.ChangeAt Go.RowKit

set_option maxRecDepth 100000 in
theorem setsShort_contract (H : Type) (enc : TypeId × Value → H) (W : World) (args : Array Value) (ds gs : List (DataW H)) (before : List MemPlace)
    (hval : ∀ (j : Nat) t v, Try.f8.params[j]? = some t → args[j]? = some v → Value.okWide Try.prog W .any 0 t v)
    (hW : DataW.Whole enc Try.prog Try.f8.params.toList Rows.setsShortSpec.vars false W args.toList ds gs before) (hk : Rows.uptoSmall H (ds ++ gs) = true) :
    Calls Try.prog 8 args W fun e W' => ∃ v, e = .returned v ∧ Rows.setsShortSpec.post enc Try.prog Try.f8 false true false false W args v W' := by
  have hW' := hW
  obtain ⟨p, q, hA0, hV, rfl, hfz, hnd⟩ := hW
  have hA : DataW.TrodAll enc Try.prog W 0 (fun _ => true) true Try.f8.params.toList args.toList ds p := hA0
  rw [Try.params8] at hA hval
  obtain ⟨v0, d0, rfl, rfl, h0⟩ := trodAll_one hA
  have hb : Rows.uptoBulkAll ([d0] ++ gs) ≤ 1048576 := of_decide_eq_true hk
  simp only [List.cons_append, List.nil_append, Rows.uptoBulkAll] at hb
  obtain ⟨c, rfl, hc, z1, z2, z3, hz⟩ := open_cfg2 (hval 0 41 v0 rfl rfl) h0
  refine (lawShort_any c W hc z1 z2 z3 (by omega)).mono fun e W' ⟨he, hw⟩ => ?_
  subst he
  exact ⟨_, rfl, law_post hW' rfl rfl (by kernel_rfl) (by rw [Try.params8]; intro t ht; simp at ht; subst ht; exact ⟨by kernel_rfl, of_decide_eq_true (by kernel_rfl)⟩) hw⟩

set_option maxRecDepth 100000 in
theorem setsShort_lifted (os : Os) (started : os.Started) (H : Type) (enc : TypeId × Value → H) (F : Stop.Interp) :
    ReturnsInHanded {} Try.checked os 8 .any ((Rows.OpenSpec.upto Rows.setsShortSpec).pre6 enc Try.prog Try.f8 Rows.setsShortUptoRow.domain false) (((Rows.OpenSpec.upto Rows.setsShortSpec).at F).post enc Try.prog Try.f8 false true false false) := by
  refine returnsInHanded_of_cond (C := Try.checked) (s := Rows.OpenSpec.upto Rows.setsShortSpec) (k := Rows.uptoSmall) rfl Try.own started (by kernel_rfl) Try.func8
    (OpenSpec.witness (enc := enc) (C := Try.checked) (s := Rows.OpenSpec.upto Rows.setsShortSpec) (k := Rows.uptoSmall) rfl false ⟨#[], #[.agg #[.slice none 0 0, .slice none 0 0, .slice none 0 0]], []⟩ 8 (by kernel_rfl) (by kernel_rfl) (by kernel_rfl)
      (x := ([.agg [.nil, .nil, .nil]], [], [])) (by kernel_rfl) rfl (by kernel_rfl)) ?_
  intro W base args ds gs before hval hW _ hk _
  exact setsShort_contract H enc W args ds gs before hval hW hk

theorem setsShort_holds : Rows.SetsShortUptoSaid :=
  OpenClaim.holds_of_cond 8 Try.f8 rfl rfl rfl rfl rfl rfl rfl ⟨rfl, rfl, rfl, rfl, rfl⟩ rfl rfl rfl rfl rfl (by kernel_rfl) Try.func8 (by kernel_rfl)
    (of_decide_eq_true (by kernel_rfl)) (by unfold Func.isWrapper; first | (rw [if_pos (by decide +kernel)]; kernel_rfl) | (rw [if_neg (by decide +kernel)]; exact ⟨rfl, rfl⟩))
    (fun os started H enc _ F => setsShort_lifted os started H enc F)
end Go.Proofs.Ytiopbjgpaidemaa

