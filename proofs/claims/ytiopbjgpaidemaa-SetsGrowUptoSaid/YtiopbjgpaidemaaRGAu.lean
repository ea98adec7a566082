/- Texts joined: Wd Wh Wm Wn. -/
import Derived.Test.YtiopbjgpaidemaaRGAt
import Derived.Test.YtiopbjgpaidemaaRGAo
import Derived.Test.YtiopbjgpaidemaaRGAp
set_option linter.unusedVariables false
set_option linter.unusedSimpArgs false
namespace Go.Proofs.Ytiopbjgpaidemaa
open Go.RowKit Go.Maps

attribute [local go_sem] Oper.semAt_some

set_option maxRecDepth 100000 in
set_option maxHeartbeats 16000000 in
theorem live9_any (w : World) : Calls Try.prog 19 #[] w fun e w' => e = .returned (.bool true) ∧ Below w.heap.size w w' := by
  have HL0 := Lib.hid (sLead_any (e9DD w.heap.size) [-2] (some ⟨w.heap.size + 14, 0, none⟩) 1 (allocs w (e9Os w.heap.size)) (e9_d w) (e9_fd _) (e9_s w) (by unfold OkL e9DD; simp) (by simp))
  rw [e9_pd, e9D_emp] at HL0
  have HL1 : Hid (Calls Try.prog 33 #[(e9DD w.heap.size).v, .slice (some ⟨w.heap.size + 14, 0, none⟩) 1 1] (allocs w (e9Os w.heap.size)) (LeadQ (allocs w (e9Os w.heap.size)) (TokP e9D (nulB e9D) (ahd (nulB e9D) [-2])) true)) := HL0
  clear HL0
  have Hc := e9_c w
  have Hd := e9_d w
  have Hbc := Lib.hid (e9_bc w)
  have Hbd := Lib.hid (e9_bd w)
  have HwV := Lib.hid (allocs_below (e9Os w.heap.size) w)
  have Hnul := Lib.hid (fun W (hb : Below (allocs w (e9Os w.heap.size)).heap.size (allocs w (e9Os w.heap.size)) W) => sNullable_any (e9CD w.heap.size) W (Hc.grown hb) (e9_fc _))
  have Hfc := Lib.hid (fun W (hb : Below (allocs w (e9Os w.heap.size)).heap.size (allocs w (e9Os w.heap.size)) W) => sFirst_any (e9CD w.heap.size) W (Hc.grown hb) (e9_fc _))
  have Hgc := Lib.hid (fun W (hb : Below (allocs w (e9Os w.heap.size)).heap.size (allocs w (e9Os w.heap.size)) W) => sFollow_any (e9CD w.heap.size) W (Hc.grown hb) (e9_fc _))
  have Hfd := Lib.hid (fun W (hb : Below (allocs w (e9Os w.heap.size)).heap.size (allocs w (e9Os w.heap.size)) W) => sFirst_any (e9DD w.heap.size) W (Hd.grown hb) (e9_fd _))
  have Hgd := Lib.hid (fun W (hb : Below (allocs w (e9Os w.heap.size)).heap.size (allocs w (e9Os w.heap.size)) W) => sFollow_any (e9DD w.heap.size) W (Hd.grown hb) (e9_fd _))
  have Hsd := Lib.hid (fun W (hb : Below (allocs w (e9Os w.heap.size)).heap.size (allocs w (e9Os w.heap.size)) W) => short_any (e9DD w.heap.size) W (Hd.grown hb) (e9_fd _))
  rw [e9_pc] at Hnul Hfc Hgc
  rw [e9_pd] at Hfd Hgd Hsd
  clear Hc Hd
  go_enter Try.func19, Try.ntmps19
  go_wp2_with (fail)
  refine HL1.out.mono ?_
  rintro e w1 ⟨la, lc, l, rfl, hr, ho, hb⟩
  obtain rfl : l = [0] := hr.same e9D_lead (fun _ => Iff.rfl)
  have HV1 := Lib.hid hb
  have HQ1 : Hid (Below w1.heap.size w1 w1) := Lib.hid (Below.refl _ w1)
  have Hl1 : Hid (Ints w1 la lc [0]) := Lib.hid ho.vs
  have hlm := Hl1.out.le
  have hlx := Hl1.out.max
  clear HL1 hr ho hb
  obtain ⟨V, hV⟩ : ∃ q, Hid (allocs w (e9Os w.heap.size) = q) := ⟨_, Lib.hid rfl⟩
  rw [hV.out] at HV1 Hbc Hbd HwV Hnul Hfc Hgc Hfd Hgd Hsd
  have hwV : w.heap.size ≤ V.heap.size := HwV.out.size
  obtain ⟨h, hh⟩ : ∃ q, Hid (w.heap.size = q) := ⟨_, Lib.hid rfl⟩
  rw [hh.out] at Hbc Hbd Hnul Hfc Hgc Hfd Hgd Hsd ⊢
  clear hV
  have hx : Blk w1 (h + 1 + 1 + 1 + 1 + 1) 41 [.slice (some ⟨h, 0, none⟩) 2 2, .slice (some ⟨h + 1, 0, none⟩) 1 1, .slice (some ⟨h + 1 + 1 + 1 + 1, 0, none⟩) 1 1] := Hbc.out.below HV1.out Hbc.out.lt
  have x0 := hx.cell 0
  have x1 := hx.cell 1
  have x2 := hx.cell 2
  have xl := hx.lt
  simp only [List.getElem?_cons_zero, List.getElem?_cons_succ] at x0 x1 x2
  clear hx
  go_wp2_with (fail)
  clear x0 x1 x2 xl
  refine (Hnul.out w1 HV1.out).mono ?_
  rintro e w2 ⟨na, nc, rfl, ho, hb⟩
  have HV2 := Lib.hid (HV1.out.trans (hb.mono HV1.out.size))
  have HQ2 := Lib.hid (HQ1.out.trans (hb.mono HQ1.out.size))
  have hn2 : Vs w2 na nc ([true].map Value.bool) := by
    have := ho.bls
    rw [e9C_nul] at this
    exact this
  clear ho hb
  have Hbl := Lib.hid (allocs_below [.cells #[.bool true] 4] w2)
  have Hs : Hid (Calls Try.prog 21 #[.slice na 1 nc, .slice (some ⟨w2.heap.size, 0, none⟩) 1 1] (allocs w2 [.cells #[.bool true] 4]) (fun e w' => e = .returned (.bool true) ∧ Below (allocs w2 [.cells #[.bool true] 4]).heap.size (allocs w2 [.cells #[.bool true] 4]) w')) := Lib.hid (sameBools9_any na (some ⟨w2.heap.size, 0, none⟩) nc 1 [true] [true] (allocs w2 [.cells #[.bool true] 4]) (hn2.grown Hbl.out) (allocs_vs [.cells #[.bool true] 4] w2 0 _ _ rfl 1 rfl (e9_mx 1 (by omega))))
  clear hn2
  go_wp2_with (fail)
  refine Hs.out.mono ?_
  rintro e w3 ⟨rfl, hb⟩
  have HV3 := Lib.hid (HV2.out.trans ((Hbl.out.trans (hb.mono Hbl.out.size)).mono HV2.out.size))
  have HQ3 := Lib.hid (HQ2.out.trans ((Hbl.out.trans (hb.mono Hbl.out.size)).mono HQ2.out.size))
  clear hb Hs Hbl
  have hx : Blk w3 (h + 1 + 1 + 1 + 1 + 1) 41 [.slice (some ⟨h, 0, none⟩) 2 2, .slice (some ⟨h + 1, 0, none⟩) 1 1, .slice (some ⟨h + 1 + 1 + 1 + 1, 0, none⟩) 1 1] := Hbc.out.below HV3.out Hbc.out.lt
  have x0 := hx.cell 0
  have x1 := hx.cell 1
  have x2 := hx.cell 2
  have xl := hx.lt
  simp only [List.getElem?_cons_zero, List.getElem?_cons_succ] at x0 x1 x2
  clear hx
  go_wp2_with (fail)
  clear x0 x1 x2 xl
  refine (Hfc.out w3 HV3.out).mono ?_
  rintro e w4 ⟨fa, fc, ds, rfl, hdl, hal, hri, hb⟩
  have HV4 := Lib.hid (HV3.out.trans (hb.mono HV3.out.size))
  have HQ4 := Lib.hid (HQ3.out.trans (hb.mono HQ3.out.size))
  have Hbl := Lib.hid (allocs_below [.cells #[.int .i64 0] 3, .cells #[.slice (some ⟨w4.heap.size, 0, none⟩) 1 1] 50] w4)
  have Hs : Hid (Calls Try.prog 24 #[.slice fa 1 fc, .slice (some ⟨w4.heap.size + 1, 0, none⟩) 1 1] (allocs w4 [.cells #[.int .i64 0] 3, .cells #[.slice (some ⟨w4.heap.size, 0, none⟩) 1 1] 50]) (fun e w' => e = .returned (.bool true) ∧ Below (allocs w4 [.cells #[.int .i64 0] 3, .cells #[.slice (some ⟨w4.heap.size, 0, none⟩) 1 1] 50]).heap.size (allocs w4 [.cells #[.int .i64 0] 3, .cells #[.slice (some ⟨w4.heap.size, 0, none⟩) 1 1] 50]) w')) := Lib.hid (by
    have h1 := sameLists9_any fa (some ⟨w4.heap.size + 1, 0, none⟩) fc 1 ds [⟨[0], some ⟨w4.heap.size, 0, none⟩, 1⟩] (allocs w4 [.cells #[.int .i64 0] 3, .cells #[.slice (some ⟨w4.heap.size, 0, none⟩) 1 1] 50]) (hal.grown Hbl.out) (lit_L1 w4 [0] 1 rfl (by omega))
    rw [lst_1 hdl hri e9C_first] at h1
    rw [show ds.length = 1 from hdl] at h1
    exact h1)
  clear hal hri hdl hb
  go_wp2_with (fail)
  refine Hs.out.mono ?_
  rintro e w5 ⟨rfl, hb⟩
  have HV5 := Lib.hid (HV4.out.trans ((Hbl.out.trans (hb.mono Hbl.out.size)).mono HV4.out.size))
  have HQ5 := Lib.hid (HQ4.out.trans ((Hbl.out.trans (hb.mono Hbl.out.size)).mono HQ4.out.size))
  clear hb Hs Hbl
  have hx : Blk w5 (h + 1 + 1 + 1 + 1 + 1) 41 [.slice (some ⟨h, 0, none⟩) 2 2, .slice (some ⟨h + 1, 0, none⟩) 1 1, .slice (some ⟨h + 1 + 1 + 1 + 1, 0, none⟩) 1 1] := Hbc.out.below HV5.out Hbc.out.lt
  have x0 := hx.cell 0
  have x1 := hx.cell 1
  have x2 := hx.cell 2
  have xl := hx.lt
  simp only [List.getElem?_cons_zero, List.getElem?_cons_succ] at x0 x1 x2
  clear hx
  go_wp2_with (fail)
  clear x0 x1 x2 xl
  refine (Hgc.out w5 HV5.out).mono ?_
  rintro e w6 ⟨fa, fc, ds, rfl, hdl, hal, hri, hb⟩
  have HV6 := Lib.hid (HV5.out.trans (hb.mono HV5.out.size))
  have HQ6 := Lib.hid (HQ5.out.trans (hb.mono HQ5.out.size))
  have Hbl := Lib.hid (allocs_below [.cells #[.int .i64 1, .int .i64 2] 3, .cells #[.slice (some ⟨w6.heap.size, 0, none⟩) 2 2] 50] w6)
  have Hs : Hid (Calls Try.prog 24 #[.slice fa 1 fc, .slice (some ⟨w6.heap.size + 1, 0, none⟩) 1 1] (allocs w6 [.cells #[.int .i64 1, .int .i64 2] 3, .cells #[.slice (some ⟨w6.heap.size, 0, none⟩) 2 2] 50]) (fun e w' => e = .returned (.bool true) ∧ Below (allocs w6 [.cells #[.int .i64 1, .int .i64 2] 3, .cells #[.slice (some ⟨w6.heap.size, 0, none⟩) 2 2] 50]).heap.size (allocs w6 [.cells #[.int .i64 1, .int .i64 2] 3, .cells #[.slice (some ⟨w6.heap.size, 0, none⟩) 2 2] 50]) w')) := Lib.hid (by
    have h1 := sameLists9_any fa (some ⟨w6.heap.size + 1, 0, none⟩) fc 1 ds [⟨[1, 2], some ⟨w6.heap.size, 0, none⟩, 2⟩] (allocs w6 [.cells #[.int .i64 1, .int .i64 2] 3, .cells #[.slice (some ⟨w6.heap.size, 0, none⟩) 2 2] 50]) (hal.grown Hbl.out) (lit_L1 w6 [1, 2] 2 rfl (by omega))
    rw [lst_1 hdl hri e9C_fol] at h1
    rw [show ds.length = 1 from hdl] at h1
    exact h1)
  clear hal hri hdl hb
  go_wp2_with (fail)
  refine Hs.out.mono ?_
  rintro e w7 ⟨rfl, hb⟩
  have HV7 := Lib.hid (HV6.out.trans ((Hbl.out.trans (hb.mono Hbl.out.size)).mono HV6.out.size))
  have HQ7 := Lib.hid (HQ6.out.trans ((Hbl.out.trans (hb.mono Hbl.out.size)).mono HQ6.out.size))
  clear hb Hs Hbl
  have hx : Blk w7 (h + 1 + 1 + 1 + 1 + 1 + 1 + 1 + 1 + 1 + 1 + 1 + 1 + 1) 41 [.slice (some ⟨h + 1 + 1 + 1 + 1 + 1 + 1, 0, none⟩) 2 2, .slice (some ⟨h + 1 + 1 + 1 + 1 + 1 + 1 + 1, 0, none⟩) 2 2, .slice (some ⟨h + 1 + 1 + 1 + 1 + 1 + 1 + 1 + 1 + 1 + 1 + 1 + 1, 0, none⟩) 2 2] := Hbd.out.below HV7.out Hbd.out.lt
  have x0 := hx.cell 0
  have x1 := hx.cell 1
  have x2 := hx.cell 2
  have xl := hx.lt
  simp only [List.getElem?_cons_zero, List.getElem?_cons_succ] at x0 x1 x2
  clear hx
  go_wp2_with (fail)
  clear x0 x1 x2 xl
  refine (Hfd.out w7 HV7.out).mono ?_
  rintro e w8 ⟨fa, fc, ds, rfl, hdl, hal, hri, hb⟩
  have HV8 := Lib.hid (HV7.out.trans (hb.mono HV7.out.size))
  have HQ8 := Lib.hid (HQ7.out.trans (hb.mono HQ7.out.size))
  have Hbl := Lib.hid (allocs_below [.cells #[.int .i64 0, .int .i64 1] 3, .cells #[.int .i64 0] 3, .cells #[.slice (some ⟨w8.heap.size, 0, none⟩) 2 2, .slice (some ⟨w8.heap.size + 1, 0, none⟩) 1 1] 50] w8)
  have Hs : Hid (Calls Try.prog 24 #[.slice fa 2 fc, .slice (some ⟨w8.heap.size + 1 + 1, 0, none⟩) 2 2] (allocs w8 [.cells #[.int .i64 0, .int .i64 1] 3, .cells #[.int .i64 0] 3, .cells #[.slice (some ⟨w8.heap.size, 0, none⟩) 2 2, .slice (some ⟨w8.heap.size + 1, 0, none⟩) 1 1] 50]) (fun e w' => e = .returned (.bool true) ∧ Below (allocs w8 [.cells #[.int .i64 0, .int .i64 1] 3, .cells #[.int .i64 0] 3, .cells #[.slice (some ⟨w8.heap.size, 0, none⟩) 2 2, .slice (some ⟨w8.heap.size + 1, 0, none⟩) 1 1] 50]).heap.size (allocs w8 [.cells #[.int .i64 0, .int .i64 1] 3, .cells #[.int .i64 0] 3, .cells #[.slice (some ⟨w8.heap.size, 0, none⟩) 2 2, .slice (some ⟨w8.heap.size + 1, 0, none⟩) 1 1] 50]) w')) := Lib.hid (by
    have h1 := sameLists9_any fa (some ⟨w8.heap.size + 1 + 1, 0, none⟩) fc 2 ds [⟨[0, 1], some ⟨w8.heap.size, 0, none⟩, 2⟩, ⟨[0], some ⟨w8.heap.size + 1, 0, none⟩, 1⟩] (allocs w8 [.cells #[.int .i64 0, .int .i64 1] 3, .cells #[.int .i64 0] 3, .cells #[.slice (some ⟨w8.heap.size, 0, none⟩) 2 2, .slice (some ⟨w8.heap.size + 1, 0, none⟩) 1 1] 50]) (hal.grown Hbl.out) (lit_L2 w8 [0, 1] [0] 2 1 rfl rfl (by omega) (by omega))
    rw [lst_2 hdl hri e9D_first0 e9D_first1] at h1
    rw [show ds.length = 2 from hdl] at h1
    exact h1)
  clear hal hri hdl hb
  go_wp2_with (fail)
  refine Hs.out.mono ?_
  rintro e w9 ⟨rfl, hb⟩
  have HV9 := Lib.hid (HV8.out.trans ((Hbl.out.trans (hb.mono Hbl.out.size)).mono HV8.out.size))
  have HQ9 := Lib.hid (HQ8.out.trans ((Hbl.out.trans (hb.mono Hbl.out.size)).mono HQ8.out.size))
  clear hb Hs Hbl
  have hx : Blk w9 (h + 1 + 1 + 1 + 1 + 1 + 1 + 1 + 1 + 1 + 1 + 1 + 1 + 1) 41 [.slice (some ⟨h + 1 + 1 + 1 + 1 + 1 + 1, 0, none⟩) 2 2, .slice (some ⟨h + 1 + 1 + 1 + 1 + 1 + 1 + 1, 0, none⟩) 2 2, .slice (some ⟨h + 1 + 1 + 1 + 1 + 1 + 1 + 1 + 1 + 1 + 1 + 1 + 1, 0, none⟩) 2 2] := Hbd.out.below HV9.out Hbd.out.lt
  have x0 := hx.cell 0
  have x1 := hx.cell 1
  have x2 := hx.cell 2
  have xl := hx.lt
  simp only [List.getElem?_cons_zero, List.getElem?_cons_succ] at x0 x1 x2
  clear hx
  go_wp2_with (fail)
  clear x0 x1 x2 xl
  refine (Hgd.out w9 HV9.out).mono ?_
  rintro e w10 ⟨fa, fc, ds, rfl, hdl, hal, hri, hb⟩
  have HV10 := Lib.hid (HV9.out.trans (hb.mono HV9.out.size))
  have HQ10 := Lib.hid (HQ9.out.trans (hb.mono HQ9.out.size))
  have Hbl := Lib.hid (allocs_below [.cells #[.int .i64 2] 3, .cells #[.int .i64 1] 3, .cells #[.slice (some ⟨w10.heap.size, 0, none⟩) 1 1, .slice (some ⟨w10.heap.size + 1, 0, none⟩) 1 1] 50] w10)
  have Hs : Hid (Calls Try.prog 24 #[.slice fa 2 fc, .slice (some ⟨w10.heap.size + 1 + 1, 0, none⟩) 2 2] (allocs w10 [.cells #[.int .i64 2] 3, .cells #[.int .i64 1] 3, .cells #[.slice (some ⟨w10.heap.size, 0, none⟩) 1 1, .slice (some ⟨w10.heap.size + 1, 0, none⟩) 1 1] 50]) (fun e w' => e = .returned (.bool true) ∧ Below (allocs w10 [.cells #[.int .i64 2] 3, .cells #[.int .i64 1] 3, .cells #[.slice (some ⟨w10.heap.size, 0, none⟩) 1 1, .slice (some ⟨w10.heap.size + 1, 0, none⟩) 1 1] 50]).heap.size (allocs w10 [.cells #[.int .i64 2] 3, .cells #[.int .i64 1] 3, .cells #[.slice (some ⟨w10.heap.size, 0, none⟩) 1 1, .slice (some ⟨w10.heap.size + 1, 0, none⟩) 1 1] 50]) w')) := Lib.hid (by
    have h1 := sameLists9_any fa (some ⟨w10.heap.size + 1 + 1, 0, none⟩) fc 2 ds [⟨[2], some ⟨w10.heap.size, 0, none⟩, 1⟩, ⟨[1], some ⟨w10.heap.size + 1, 0, none⟩, 1⟩] (allocs w10 [.cells #[.int .i64 2] 3, .cells #[.int .i64 1] 3, .cells #[.slice (some ⟨w10.heap.size, 0, none⟩) 1 1, .slice (some ⟨w10.heap.size + 1, 0, none⟩) 1 1] 50]) (hal.grown Hbl.out) (lit_L2 w10 [2] [1] 1 1 rfl rfl (by omega) (by omega))
    rw [lst_2 hdl hri e9D_fol0 e9D_fol1] at h1
    rw [show ds.length = 2 from hdl] at h1
    exact h1)
  clear hal hri hdl hb
  go_wp2_with (fail)
  refine Hs.out.mono ?_
  rintro e w11 ⟨rfl, hb⟩
  have HV11 := Lib.hid (HV10.out.trans ((Hbl.out.trans (hb.mono Hbl.out.size)).mono HV10.out.size))
  have HQ11 := Lib.hid (HQ10.out.trans ((Hbl.out.trans (hb.mono Hbl.out.size)).mono HQ10.out.size))
  clear hb Hs Hbl
  have Hbl := Lib.hid (allocs_below [.cells #[.int .i64 0] 3] w11)
  have hl9 : Ints w11 la lc [0] := Hl1.out.grown HQ11.out
  have Hs : Hid (Calls Try.prog 29 #[.slice la 1 lc, .slice (some ⟨w11.heap.size, 0, none⟩) 1 1] (allocs w11 [.cells #[.int .i64 0] 3]) (fun e w' => e = .returned (.bool true) ∧ Below (allocs w11 [.cells #[.int .i64 0] 3]).heap.size (allocs w11 [.cells #[.int .i64 0] 3]) w')) := Lib.hid (sameInts8_any la (some ⟨w11.heap.size, 0, none⟩) lc 1 [0] [0] (allocs w11 [.cells #[.int .i64 0] 3]) (hl9.grown Hbl.out) (lit_I w11 [0] 1 rfl (by omega)))
  clear hl9
  go_wp2_with (fail)
  refine Hs.out.mono ?_
  rintro e w12 ⟨rfl, hb⟩
  have HV12 := Lib.hid (HV11.out.trans ((Hbl.out.trans (hb.mono Hbl.out.size)).mono HV11.out.size))
  have HQ12 := Lib.hid (HQ11.out.trans ((Hbl.out.trans (hb.mono Hbl.out.size)).mono HQ11.out.size))
  clear hb Hs Hbl
  have hx : Blk w12 (h + 1 + 1 + 1 + 1 + 1 + 1 + 1 + 1 + 1 + 1 + 1 + 1 + 1) 41 [.slice (some ⟨h + 1 + 1 + 1 + 1 + 1 + 1, 0, none⟩) 2 2, .slice (some ⟨h + 1 + 1 + 1 + 1 + 1 + 1 + 1, 0, none⟩) 2 2, .slice (some ⟨h + 1 + 1 + 1 + 1 + 1 + 1 + 1 + 1 + 1 + 1 + 1 + 1, 0, none⟩) 2 2] := Hbd.out.below HV12.out Hbd.out.lt
  have x0 := hx.cell 0
  have x1 := hx.cell 1
  have x2 := hx.cell 2
  have xl := hx.lt
  simp only [List.getElem?_cons_zero, List.getElem?_cons_succ] at x0 x1 x2
  clear hx
  go_wp2_with (fail)
  clear x0 x1 x2 xl
  refine (Hsd.out w12 HV12.out).mono ?_
  rintro e w13 ⟨na, nc, rfl, ho, hb⟩
  have HV13 := Lib.hid (HV12.out.trans (hb.mono HV12.out.size))
  have HQ13 := Lib.hid (HQ12.out.trans (hb.mono HQ12.out.size))
  have hn13 : Ints w13 na nc [1, 0] := by
    have := ho.nus
    have e1 : ((List.range 2).map (fun r => Value.int .i64 (shP e9D r))) = [1, 0].map (Value.int .i64) := by
      show [Value.int .i64 (shP e9D 0), Value.int .i64 (shP e9D 1)] = _
      rw [e9D_sh0, e9D_sh1]
      rfl
    unfold NusF at this
    show Vs _ na nc _
    rw [← e1]
    exact this
  clear ho hb
  have Hbl := Lib.hid (allocs_below [.cells #[.int .i64 1, .int .i64 0] 3] w13)
  have Hs : Hid (Calls Try.prog 29 #[.slice na 2 nc, .slice (some ⟨w13.heap.size, 0, none⟩) 2 2] (allocs w13 [.cells #[.int .i64 1, .int .i64 0] 3]) (fun e w' => e = .returned (.bool true) ∧ Below (allocs w13 [.cells #[.int .i64 1, .int .i64 0] 3]).heap.size (allocs w13 [.cells #[.int .i64 1, .int .i64 0] 3]) w')) := Lib.hid (sameInts8_any na (some ⟨w13.heap.size, 0, none⟩) nc 2 [1, 0] [1, 0] (allocs w13 [.cells #[.int .i64 1, .int .i64 0] 3]) (hn13.grown Hbl.out) (lit_I w13 [1, 0] 2 rfl (by omega)))
  clear hn13
  go_wp2_with (fail)
  refine Hs.out.mono ?_
  rintro e w14 ⟨rfl, hb⟩
  have HV14 := Lib.hid (HV13.out.trans ((Hbl.out.trans (hb.mono Hbl.out.size)).mono HV13.out.size))
  have HQ14 := Lib.hid (HQ13.out.trans ((Hbl.out.trans (hb.mono Hbl.out.size)).mono HQ13.out.size))
  clear hb Hs Hbl
  have HB := Lib.hid (HwV.out.trans (HV14.out.mono hwV))
  go_wp2_with (fail)
  exact bodyPost_ret (v := .bool true) (by simp [results, Try.results19, go_sem]; try first | rfl | assumption | omega) rfl ⟨rfl, HB.out⟩
end Go.Proofs.Ytiopbjgpaidemaa

namespace Go.Proofs.Ytiopbjgpaidemaa
open Go.RowKit Go.Maps

attribute [local go_sem] Oper.semAt_some

set_option maxRecDepth 100000 in
set_option maxHeartbeats 16000000 in
theorem in9_any (l : List Int) (a : Option Addr) (cap : Nat) (v : Int) (w : World) (hl : Ints w a cap l) :
    Calls Try.prog 35 #[.slice a l.length cap, .int .i64 v] w fun e w' => e = .returned (.bool (decide (v ∈ l))) ∧ w' = w := by
  have hlm : l.length ≤ cap ∧ cap ≤ 9223372036854775807 := ⟨by have := hl.le; rw [List.length_map] at this; exact this, hl.max⟩
  obtain ⟨L, HL⟩ : ∃ L, Hid (l.length = L) := ⟨_, Lib.hid rfl⟩
  rw [HL.out] at hlm ⊢
  obtain ⟨B, HB⟩ : ∃ B, Hid (decide (v ∈ l) = B) := ⟨_, Lib.hid rfl⟩
  rw [HB.out]
  go_enter Try.func35, Try.ntmps35
  go_wp2_with (fail)
  go_loopw [6, 9] (fun _ i wr => ∃ (k : Nat), k ≤ L ∧ i = .int .i64 k ∧ Hid (B = decide (v ∈ l.drop k)) ∧ wr = w) (fun _ i _ => L - (intOf i).toNat)
  case atStart => exact ⟨0, by omega, rfl, Lib.hid HB.out.symm, rfl⟩
  case round =>
    obtain ⟨k, hk, rfl, HR, hwr⟩ := hrel
    subst hwr
    by_cases hlt : k < L
    · have hkI : (k : Int) < (L : Int) := by omega
      have hkI0 : (0 : Int) ≤ (k : Int) := by omega
      have hkl : k < l.length := by rw [HL.out]; exact hlt
      obtain ⟨b, off, rfl⟩ := hl.at_ k (by rw [List.length_map]; exact hkl)
      have c0 := hl.cell b off rfl k (by rw [List.length_map]; exact hkl)
      rw [List.getElem_map] at c0
      have hbl := World.block_lt_of_cell? _ _ c0
      have hdr : Hid (l.drop k = l[k] :: l.drop (k + 1)) := Lib.hid (List.drop_eq_getElem_cons hkl)
      obtain ⟨u, hu⟩ : ∃ u, Hid (l[k] = u) := ⟨_, Lib.hid rfl⟩
      rw [hu.out] at c0 hdr
      by_cases he : u = v
      · have HT : Hid (B = true) := Lib.hid (by rw [HR.out, hdr.out, he]; simp)
        subst he
        go_wp2_with (fail)
        exact bodyPost_ret (v := .bool true) (by simp [results, Try.results35, go_sem]; try first | rfl | assumption | omega) rfl ⟨by rw [HT.out], rfl⟩
      · have heI : (u == v) = false := by rw [beq_eq_false_iff_ne]; exact he
        have HN : Hid (B = decide (v ∈ l.drop (k + 1))) := Lib.hid (by
          rw [HR.out, hdr.out]
          simp [Ne.symm he])
        go_wp2_with (fail)
        exact ⟨⟨k + 1, by omega, by go_num, HN, by first | rfl | trivial⟩, by simp [intOf]; omega⟩
    · have hke : k = L := by omega
      have hkI : ¬ (k : Int) < (L : Int) := by omega
      have HK : Hid (B = false) := Lib.hid (by rw [HR.out, List.drop_eq_nil_of_le (by rw [HL.out]; omega)]; simp)
      clear hke
      go_wp2_with (fail)
      exact bodyPost_ret (v := .bool false) (by simp [results, Try.results35, go_sem]; try first | rfl | assumption | omega) rfl ⟨by rw [HK.out], rfl⟩
end Go.Proofs.Ytiopbjgpaidemaa

namespace Go.Proofs.Ytiopbjgpaidemaa
open Go.RowKit Go.Maps

attribute [local go_sem] Oper.semAt_some

theorem OwnKZ.app {w : World} {base cap : Nat} {a : Option Addr} {l : List Int} (h : OwnKZ w base a cap l) (b : Option Addr) (bc : Nat) (m : List Int) (hm : Ints w b bc m) (ty : TypeId) (hn : l.length + m.length ≤ 1099511627780) (hb : base ≤ w.heap.size) :
    ∃ a' c' w', (Builtin.append_ #[50, 50] ty #[.slice a l.length cap, .slice b m.length bc]).run Try.prog w = .ok (.slice a' (l.length + m.length) c') w' ∧
      OwnKZ w' base a' c' (l ++ m) ∧ Below base w w' := by
  obtain ⟨i0, hi, hz0, hz1, hz2⟩ := info_parts info_keyZ
  cases b with
  | none =>
    have e0 := hm.nil_ rfl
    have hml : m = [] := by
      have := hm.le
      rw [e0] at this
      simpa using this
    subst e0
    subst hml
    exact ⟨a, cap, w, run_append_owned_none (P := Try.prog) w base _ ty _ i0 1 Try.underlying50 hi _ _ _ h, by simpa [OwnKZ] using h, Below.refl _ w⟩
  | some b' =>
    have hnew : ∀ j u, (m.map (Value.int .i64))[j]? = some u → w.cell? (b'.add j) = some u := by
      intro j u hj
      have hjl : j < (m.map (Value.int .i64)).length := (List.getElem?_eq_some_iff.1 hj).1
      obtain ⟨b2, off, e⟩ := hm.at_ j hjl
      have e := Option.some.inj e
      subst e
      have := hm.cell b2 off rfl j hjl
      rw [show (⟨b2, off, none⟩ : Addr).add j = ⟨b2, off + j, none⟩ from by unfold Addr.add; split <;> simp_all]
      exact this.trans ((List.getElem?_eq_getElem hjl).symm.trans hj)
    obtain ⟨v', w', hrun, ho, hg, _⟩ := run_append_own (P := Try.prog) w base 50 ty 3 i0 _ 1 8 Try.underlying50 hi hz0 hz1 hz2 rfl (by decide) _ l.length _ h b' m.length bc (m.map (Value.int .i64)) (by simp) hnew (fun u hu => by
      obtain ⟨x, _, rfl⟩ := List.mem_map.1 hu
      rfl) (by unfold maxLen; omega) (by omega) hb
    obtain ⟨a', cap', rfl⟩ := slice_of_own ho
    refine ⟨a', cap', w', hrun, ?_, belowAt hg (fun g e0 => (own_typ h g e0).1) hb⟩
    unfold OwnKZ
    rw [List.map_append, List.length_append]
    exact ho
end Go.Proofs.Ytiopbjgpaidemaa

namespace Go.Proofs.Ytiopbjgpaidemaa
open Go.RowKit Go.Maps

attribute [local go_sem] Oper.semAt_some

end Go.Proofs.Ytiopbjgpaidemaa

