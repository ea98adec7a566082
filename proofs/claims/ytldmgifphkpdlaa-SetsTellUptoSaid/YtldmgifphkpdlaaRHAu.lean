/- Texts joined: Wd Wh Wm Wn Wq. -/
import Derived.Test.YtldmgifphkpdlaaRHAt
import Derived.Test.YtldmgifphkpdlaaRHAo
import Derived.Test.YtldmgifphkpdlaaRHAp
set_option linter.unusedVariables false
set_option linter.unusedSimpArgs false
namespace Go.Proofs.Ytldmgifphkpdlaa
open Go.RowKit Go.Maps

attribute [local go_sem] Oper.semAt_some

set_option maxRecDepth 100000 in
set_option maxHeartbeats 16000000 in
theorem live9_any (w : World) : Calls Try.prog 13 #[] w fun e w' => e = .returned (.bool true) ∧ Below w.heap.size w w' := by
  have HL0 := Lib.hid (sLead_any (e9DD w.heap.size) [-2] (some ⟨w.heap.size + 14, 0, none⟩) 1 (allocs w (e9Os w.heap.size)) (e9_d w) (e9_fd _) (e9_s w) (by unfold OkL e9DD; simp) (by simp))
  rw [e9_pd, e9D_emp] at HL0
  have HL1 : Hid (Calls Try.prog 27 #[(e9DD w.heap.size).v, .slice (some ⟨w.heap.size + 14, 0, none⟩) 1 1] (allocs w (e9Os w.heap.size)) (LeadQ (allocs w (e9Os w.heap.size)) (TokP e9D (nulB e9D) (ahd (nulB e9D) [-2])) true)) := HL0
  clear HL0
  have Hc := e9_c w
  have Hd := e9_d w
  have Hbc := Lib.hid (e9_bc w)
  have Hbd := Lib.hid (e9_bd w)
  have HwV := Lib.hid (allocs_below (e9Os w.heap.size) w)
  have Hnul := Lib.hid (fun W (hb : Below (allocs w (e9Os w.heap.size)).heap.size (allocs w (e9Os w.heap.size)) W) => sNullable_any (e9CD w.heap.size) W (Hc.grown hb) (e9_fc _))
  have Hfc := Lib.hid (fun W (hb : Below (allocs w (e9Os w.heap.size)).heap.size (allocs w (e9Os w.heap.size)) W) => sFirst_any (e9CD w.heap.size) W (Hc.grown hb) (e9_fc _))
  have Hgc := Lib.hid (fun W (hb : Below (allocs w (e9Os w.heap.size)).heap.size (allocs w (e9Os w.heap.size)) W) => sFollow_any (e9CD w.heap.size) W (Hc.grown hb) (e9_fc _))
  have Hfd := Lib.hid (fun W (hb : Below (allocs w (e9Os w.heap.size)).heap.size (allocs w (e9Os w.heap.size)) W) => sFirst_any (e9DD w.heap.size) W (Hd.grown hb) (e9_fd _))
  have Hgd := Lib.hid (fun W (hb : Below (allocs w (e9Os w.heap.size)).heap.size (allocs w (e9Os w.heap.size)) W) => sFollow_any (e9DD w.heap.size) W (Hd.grown hb) (e9_fd _))
  have Hsd := Lib.hid (fun W (hb : Below (allocs w (e9Os w.heap.size)).heap.size (allocs w (e9Os w.heap.size)) W) => short_any (e9DD w.heap.size) W (Hd.grown hb) (e9_fd _))
  rw [e9_pc] at Hnul Hfc Hgc
  rw [e9_pd] at Hfd Hgd Hsd
  clear Hc Hd
  go_enter Try.func13, Try.ntmps13
  go_wp2_with (fail)
  refine HL1.out.mono ?_
  rintro e w1 ⟨la, lc, l, rfl, hr, ho, hb⟩
  obtain rfl : l = [0] := hr.same e9D_lead (fun _ => Iff.rfl)
  have HV1 := Lib.hid hb
  have HQ1 : Hid (Below w1.heap.size w1 w1) := Lib.hid (Below.refl _ w1)
  have Hl1 : Hid (Ints w1 la lc [0]) := Lib.hid ho.vs
  have hlm := Hl1.out.le
  have hlx := Hl1.out.max
  clear HL1 hr ho hb
  obtain ⟨V, hV⟩ : ∃ q, Hid (allocs w (e9Os w.heap.size) = q) := ⟨_, Lib.hid rfl⟩
  rw [hV.out] at HV1 Hbc Hbd HwV Hnul Hfc Hgc Hfd Hgd Hsd
  have hwV : w.heap.size ≤ V.heap.size := HwV.out.size
  obtain ⟨h, hh⟩ : ∃ q, Hid (w.heap.size = q) := ⟨_, Lib.hid rfl⟩
  rw [hh.out] at Hbc Hbd Hnul Hfc Hgc Hfd Hgd Hsd ⊢
  clear hV
  have hx : Blk w1 (h + 1 + 1 + 1 + 1 + 1) 25 [.slice (some ⟨h, 0, none⟩) 2 2, .slice (some ⟨h + 1, 0, none⟩) 1 1, .slice (some ⟨h + 1 + 1 + 1 + 1, 0, none⟩) 1 1] := Hbc.out.below HV1.out Hbc.out.lt
  have x0 := hx.cell 0
  have x1 := hx.cell 1
  have x2 := hx.cell 2
  have xl := hx.lt
  simp only [List.getElem?_cons_zero, List.getElem?_cons_succ] at x0 x1 x2
  clear hx
  go_wp2_with (fail)
  clear x0 x1 x2 xl
  refine (Hnul.out w1 HV1.out).mono ?_
  rintro e w2 ⟨na, nc, rfl, ho, hb⟩
  have HV2 := Lib.hid (HV1.out.trans (hb.mono HV1.out.size))
  have HQ2 := Lib.hid (HQ1.out.trans (hb.mono HQ1.out.size))
  have hn2 : Vs w2 na nc ([true].map Value.bool) := by
    have := ho.bls
    rw [e9C_nul] at this
    exact this
  clear ho hb
  have Hbl := Lib.hid (allocs_below [.cells #[.bool true] 4] w2)
  have Hs : Hid (Calls Try.prog 15 #[.slice na 1 nc, .slice (some ⟨w2.heap.size, 0, none⟩) 1 1] (allocs w2 [.cells #[.bool true] 4]) (fun e w' => e = .returned (.bool true) ∧ Below (allocs w2 [.cells #[.bool true] 4]).heap.size (allocs w2 [.cells #[.bool true] 4]) w')) := Lib.hid (sameBools9_any na (some ⟨w2.heap.size, 0, none⟩) nc 1 [true] [true] (allocs w2 [.cells #[.bool true] 4]) (hn2.grown Hbl.out) (allocs_vs [.cells #[.bool true] 4] w2 0 _ _ rfl 1 rfl (e9_mx 1 (by omega))))
  clear hn2
  go_wp2_with (fail)
  refine Hs.out.mono ?_
  rintro e w3 ⟨rfl, hb⟩
  have HV3 := Lib.hid (HV2.out.trans ((Hbl.out.trans (hb.mono Hbl.out.size)).mono HV2.out.size))
  have HQ3 := Lib.hid (HQ2.out.trans ((Hbl.out.trans (hb.mono Hbl.out.size)).mono HQ2.out.size))
  clear hb Hs Hbl
  have hx : Blk w3 (h + 1 + 1 + 1 + 1 + 1) 25 [.slice (some ⟨h, 0, none⟩) 2 2, .slice (some ⟨h + 1, 0, none⟩) 1 1, .slice (some ⟨h + 1 + 1 + 1 + 1, 0, none⟩) 1 1] := Hbc.out.below HV3.out Hbc.out.lt
  have x0 := hx.cell 0
  have x1 := hx.cell 1
  have x2 := hx.cell 2
  have xl := hx.lt
  simp only [List.getElem?_cons_zero, List.getElem?_cons_succ] at x0 x1 x2
  clear hx
  go_wp2_with (fail)
  clear x0 x1 x2 xl
  refine (Hfc.out w3 HV3.out).mono ?_
  rintro e w4 ⟨fa, fc, ds, rfl, hdl, hal, hri, hb⟩
  have HV4 := Lib.hid (HV3.out.trans (hb.mono HV3.out.size))
  have HQ4 := Lib.hid (HQ3.out.trans (hb.mono HQ3.out.size))
  have Hbl := Lib.hid (allocs_below [.cells #[.int .i64 0] 3, .cells #[.slice (some ⟨w4.heap.size, 0, none⟩) 1 1] 35] w4)
  have Hs : Hid (Calls Try.prog 18 #[.slice fa 1 fc, .slice (some ⟨w4.heap.size + 1, 0, none⟩) 1 1] (allocs w4 [.cells #[.int .i64 0] 3, .cells #[.slice (some ⟨w4.heap.size, 0, none⟩) 1 1] 35]) (fun e w' => e = .returned (.bool true) ∧ Below (allocs w4 [.cells #[.int .i64 0] 3, .cells #[.slice (some ⟨w4.heap.size, 0, none⟩) 1 1] 35]).heap.size (allocs w4 [.cells #[.int .i64 0] 3, .cells #[.slice (some ⟨w4.heap.size, 0, none⟩) 1 1] 35]) w')) := Lib.hid (by
    have h1 := sameLists9_any fa (some ⟨w4.heap.size + 1, 0, none⟩) fc 1 ds [⟨[0], some ⟨w4.heap.size, 0, none⟩, 1⟩] (allocs w4 [.cells #[.int .i64 0] 3, .cells #[.slice (some ⟨w4.heap.size, 0, none⟩) 1 1] 35]) (hal.grown Hbl.out) (lit_L1 w4 [0] 1 rfl (by omega))
    rw [lst_1 hdl hri e9C_first] at h1
    rw [show ds.length = 1 from hdl] at h1
    exact h1)
  clear hal hri hdl hb
  go_wp2_with (fail)
  refine Hs.out.mono ?_
  rintro e w5 ⟨rfl, hb⟩
  have HV5 := Lib.hid (HV4.out.trans ((Hbl.out.trans (hb.mono Hbl.out.size)).mono HV4.out.size))
  have HQ5 := Lib.hid (HQ4.out.trans ((Hbl.out.trans (hb.mono Hbl.out.size)).mono HQ4.out.size))
  clear hb Hs Hbl
  have hx : Blk w5 (h + 1 + 1 + 1 + 1 + 1) 25 [.slice (some ⟨h, 0, none⟩) 2 2, .slice (some ⟨h + 1, 0, none⟩) 1 1, .slice (some ⟨h + 1 + 1 + 1 + 1, 0, none⟩) 1 1] := Hbc.out.below HV5.out Hbc.out.lt
  have x0 := hx.cell 0
  have x1 := hx.cell 1
  have x2 := hx.cell 2
  have xl := hx.lt
  simp only [List.getElem?_cons_zero, List.getElem?_cons_succ] at x0 x1 x2
  clear hx
  go_wp2_with (fail)
  clear x0 x1 x2 xl
  refine (Hgc.out w5 HV5.out).mono ?_
  rintro e w6 ⟨fa, fc, ds, rfl, hdl, hal, hri, hb⟩
  have HV6 := Lib.hid (HV5.out.trans (hb.mono HV5.out.size))
  have HQ6 := Lib.hid (HQ5.out.trans (hb.mono HQ5.out.size))
  have Hbl := Lib.hid (allocs_below [.cells #[.int .i64 1, .int .i64 2] 3, .cells #[.slice (some ⟨w6.heap.size, 0, none⟩) 2 2] 35] w6)
  have Hs : Hid (Calls Try.prog 18 #[.slice fa 1 fc, .slice (some ⟨w6.heap.size + 1, 0, none⟩) 1 1] (allocs w6 [.cells #[.int .i64 1, .int .i64 2] 3, .cells #[.slice (some ⟨w6.heap.size, 0, none⟩) 2 2] 35]) (fun e w' => e = .returned (.bool true) ∧ Below (allocs w6 [.cells #[.int .i64 1, .int .i64 2] 3, .cells #[.slice (some ⟨w6.heap.size, 0, none⟩) 2 2] 35]).heap.size (allocs w6 [.cells #[.int .i64 1, .int .i64 2] 3, .cells #[.slice (some ⟨w6.heap.size, 0, none⟩) 2 2] 35]) w')) := Lib.hid (by
    have h1 := sameLists9_any fa (some ⟨w6.heap.size + 1, 0, none⟩) fc 1 ds [⟨[1, 2], some ⟨w6.heap.size, 0, none⟩, 2⟩] (allocs w6 [.cells #[.int .i64 1, .int .i64 2] 3, .cells #[.slice (some ⟨w6.heap.size, 0, none⟩) 2 2] 35]) (hal.grown Hbl.out) (lit_L1 w6 [1, 2] 2 rfl (by omega))
    rw [lst_1 hdl hri e9C_fol] at h1
    rw [show ds.length = 1 from hdl] at h1
    exact h1)
  clear hal hri hdl hb
  go_wp2_with (fail)
  refine Hs.out.mono ?_
  rintro e w7 ⟨rfl, hb⟩
  have HV7 := Lib.hid (HV6.out.trans ((Hbl.out.trans (hb.mono Hbl.out.size)).mono HV6.out.size))
  have HQ7 := Lib.hid (HQ6.out.trans ((Hbl.out.trans (hb.mono Hbl.out.size)).mono HQ6.out.size))
  clear hb Hs Hbl
  have hx : Blk w7 (h + 1 + 1 + 1 + 1 + 1 + 1 + 1 + 1 + 1 + 1 + 1 + 1 + 1) 25 [.slice (some ⟨h + 1 + 1 + 1 + 1 + 1 + 1, 0, none⟩) 2 2, .slice (some ⟨h + 1 + 1 + 1 + 1 + 1 + 1 + 1, 0, none⟩) 2 2, .slice (some ⟨h + 1 + 1 + 1 + 1 + 1 + 1 + 1 + 1 + 1 + 1 + 1 + 1, 0, none⟩) 2 2] := Hbd.out.below HV7.out Hbd.out.lt
  have x0 := hx.cell 0
  have x1 := hx.cell 1
  have x2 := hx.cell 2
  have xl := hx.lt
  simp only [List.getElem?_cons_zero, List.getElem?_cons_succ] at x0 x1 x2
  clear hx
  go_wp2_with (fail)
  clear x0 x1 x2 xl
  refine (Hfd.out w7 HV7.out).mono ?_
  rintro e w8 ⟨fa, fc, ds, rfl, hdl, hal, hri, hb⟩
  have HV8 := Lib.hid (HV7.out.trans (hb.mono HV7.out.size))
  have HQ8 := Lib.hid (HQ7.out.trans (hb.mono HQ7.out.size))
  have Hbl := Lib.hid (allocs_below [.cells #[.int .i64 0, .int .i64 1] 3, .cells #[.int .i64 0] 3, .cells #[.slice (some ⟨w8.heap.size, 0, none⟩) 2 2, .slice (some ⟨w8.heap.size + 1, 0, none⟩) 1 1] 35] w8)
  have Hs : Hid (Calls Try.prog 18 #[.slice fa 2 fc, .slice (some ⟨w8.heap.size + 1 + 1, 0, none⟩) 2 2] (allocs w8 [.cells #[.int .i64 0, .int .i64 1] 3, .cells #[.int .i64 0] 3, .cells #[.slice (some ⟨w8.heap.size, 0, none⟩) 2 2, .slice (some ⟨w8.heap.size + 1, 0, none⟩) 1 1] 35]) (fun e w' => e = .returned (.bool true) ∧ Below (allocs w8 [.cells #[.int .i64 0, .int .i64 1] 3, .cells #[.int .i64 0] 3, .cells #[.slice (some ⟨w8.heap.size, 0, none⟩) 2 2, .slice (some ⟨w8.heap.size + 1, 0, none⟩) 1 1] 35]).heap.size (allocs w8 [.cells #[.int .i64 0, .int .i64 1] 3, .cells #[.int .i64 0] 3, .cells #[.slice (some ⟨w8.heap.size, 0, none⟩) 2 2, .slice (some ⟨w8.heap.size + 1, 0, none⟩) 1 1] 35]) w')) := Lib.hid (by
    have h1 := sameLists9_any fa (some ⟨w8.heap.size + 1 + 1, 0, none⟩) fc 2 ds [⟨[0, 1], some ⟨w8.heap.size, 0, none⟩, 2⟩, ⟨[0], some ⟨w8.heap.size + 1, 0, none⟩, 1⟩] (allocs w8 [.cells #[.int .i64 0, .int .i64 1] 3, .cells #[.int .i64 0] 3, .cells #[.slice (some ⟨w8.heap.size, 0, none⟩) 2 2, .slice (some ⟨w8.heap.size + 1, 0, none⟩) 1 1] 35]) (hal.grown Hbl.out) (lit_L2 w8 [0, 1] [0] 2 1 rfl rfl (by omega) (by omega))
    rw [lst_2 hdl hri e9D_first0 e9D_first1] at h1
    rw [show ds.length = 2 from hdl] at h1
    exact h1)
  clear hal hri hdl hb
  go_wp2_with (fail)
  refine Hs.out.mono ?_
  rintro e w9 ⟨rfl, hb⟩
  have HV9 := Lib.hid (HV8.out.trans ((Hbl.out.trans (hb.mono Hbl.out.size)).mono HV8.out.size))
  have HQ9 := Lib.hid (HQ8.out.trans ((Hbl.out.trans (hb.mono Hbl.out.size)).mono HQ8.out.size))
  clear hb Hs Hbl
  have hx : Blk w9 (h + 1 + 1 + 1 + 1 + 1 + 1 + 1 + 1 + 1 + 1 + 1 + 1 + 1) 25 [.slice (some ⟨h + 1 + 1 + 1 + 1 + 1 + 1, 0, none⟩) 2 2, .slice (some ⟨h + 1 + 1 + 1 + 1 + 1 + 1 + 1, 0, none⟩) 2 2, .slice (some ⟨h + 1 + 1 + 1 + 1 + 1 + 1 + 1 + 1 + 1 + 1 + 1 + 1, 0, none⟩) 2 2] := Hbd.out.below HV9.out Hbd.out.lt
  have x0 := hx.cell 0
  have x1 := hx.cell 1
  have x2 := hx.cell 2
  have xl := hx.lt
  simp only [List.getElem?_cons_zero, List.getElem?_cons_succ] at x0 x1 x2
  clear hx
  go_wp2_with (fail)
  clear x0 x1 x2 xl
  refine (Hgd.out w9 HV9.out).mono ?_
  rintro e w10 ⟨fa, fc, ds, rfl, hdl, hal, hri, hb⟩
  have HV10 := Lib.hid (HV9.out.trans (hb.mono HV9.out.size))
  have HQ10 := Lib.hid (HQ9.out.trans (hb.mono HQ9.out.size))
  have Hbl := Lib.hid (allocs_below [.cells #[.int .i64 2] 3, .cells #[.int .i64 1] 3, .cells #[.slice (some ⟨w10.heap.size, 0, none⟩) 1 1, .slice (some ⟨w10.heap.size + 1, 0, none⟩) 1 1] 35] w10)
  have Hs : Hid (Calls Try.prog 18 #[.slice fa 2 fc, .slice (some ⟨w10.heap.size + 1 + 1, 0, none⟩) 2 2] (allocs w10 [.cells #[.int .i64 2] 3, .cells #[.int .i64 1] 3, .cells #[.slice (some ⟨w10.heap.size, 0, none⟩) 1 1, .slice (some ⟨w10.heap.size + 1, 0, none⟩) 1 1] 35]) (fun e w' => e = .returned (.bool true) ∧ Below (allocs w10 [.cells #[.int .i64 2] 3, .cells #[.int .i64 1] 3, .cells #[.slice (some ⟨w10.heap.size, 0, none⟩) 1 1, .slice (some ⟨w10.heap.size + 1, 0, none⟩) 1 1] 35]).heap.size (allocs w10 [.cells #[.int .i64 2] 3, .cells #[.int .i64 1] 3, .cells #[.slice (some ⟨w10.heap.size, 0, none⟩) 1 1, .slice (some ⟨w10.heap.size + 1, 0, none⟩) 1 1] 35]) w')) := Lib.hid (by
    have h1 := sameLists9_any fa (some ⟨w10.heap.size + 1 + 1, 0, none⟩) fc 2 ds [⟨[2], some ⟨w10.heap.size, 0, none⟩, 1⟩, ⟨[1], some ⟨w10.heap.size + 1, 0, none⟩, 1⟩] (allocs w10 [.cells #[.int .i64 2] 3, .cells #[.int .i64 1] 3, .cells #[.slice (some ⟨w10.heap.size, 0, none⟩) 1 1, .slice (some ⟨w10.heap.size + 1, 0, none⟩) 1 1] 35]) (hal.grown Hbl.out) (lit_L2 w10 [2] [1] 1 1 rfl rfl (by omega) (by omega))
    rw [lst_2 hdl hri e9D_fol0 e9D_fol1] at h1
    rw [show ds.length = 2 from hdl] at h1
    exact h1)
  clear hal hri hdl hb
  go_wp2_with (fail)
  refine Hs.out.mono ?_
  rintro e w11 ⟨rfl, hb⟩
  have HV11 := Lib.hid (HV10.out.trans ((Hbl.out.trans (hb.mono Hbl.out.size)).mono HV10.out.size))
  have HQ11 := Lib.hid (HQ10.out.trans ((Hbl.out.trans (hb.mono Hbl.out.size)).mono HQ10.out.size))
  clear hb Hs Hbl
  have Hbl := Lib.hid (allocs_below [.cells #[.int .i64 0] 3] w11)
  have hl9 : Ints w11 la lc [0] := Hl1.out.grown HQ11.out
  have Hs : Hid (Calls Try.prog 23 #[.slice la 1 lc, .slice (some ⟨w11.heap.size, 0, none⟩) 1 1] (allocs w11 [.cells #[.int .i64 0] 3]) (fun e w' => e = .returned (.bool true) ∧ Below (allocs w11 [.cells #[.int .i64 0] 3]).heap.size (allocs w11 [.cells #[.int .i64 0] 3]) w')) := Lib.hid (sameInts8_any la (some ⟨w11.heap.size, 0, none⟩) lc 1 [0] [0] (allocs w11 [.cells #[.int .i64 0] 3]) (hl9.grown Hbl.out) (lit_I w11 [0] 1 rfl (by omega)))
  clear hl9
  go_wp2_with (fail)
  refine Hs.out.mono ?_
  rintro e w12 ⟨rfl, hb⟩
  have HV12 := Lib.hid (HV11.out.trans ((Hbl.out.trans (hb.mono Hbl.out.size)).mono HV11.out.size))
  have HQ12 := Lib.hid (HQ11.out.trans ((Hbl.out.trans (hb.mono Hbl.out.size)).mono HQ11.out.size))
  clear hb Hs Hbl
  have hx : Blk w12 (h + 1 + 1 + 1 + 1 + 1 + 1 + 1 + 1 + 1 + 1 + 1 + 1 + 1) 25 [.slice (some ⟨h + 1 + 1 + 1 + 1 + 1 + 1, 0, none⟩) 2 2, .slice (some ⟨h + 1 + 1 + 1 + 1 + 1 + 1 + 1, 0, none⟩) 2 2, .slice (some ⟨h + 1 + 1 + 1 + 1 + 1 + 1 + 1 + 1 + 1 + 1 + 1 + 1, 0, none⟩) 2 2] := Hbd.out.below HV12.out Hbd.out.lt
  have x0 := hx.cell 0
  have x1 := hx.cell 1
  have x2 := hx.cell 2
  have xl := hx.lt
  simp only [List.getElem?_cons_zero, List.getElem?_cons_succ] at x0 x1 x2
  clear hx
  go_wp2_with (fail)
  clear x0 x1 x2 xl
  refine (Hsd.out w12 HV12.out).mono ?_
  rintro e w13 ⟨na, nc, rfl, ho, hb⟩
  have HV13 := Lib.hid (HV12.out.trans (hb.mono HV12.out.size))
  have HQ13 := Lib.hid (HQ12.out.trans (hb.mono HQ12.out.size))
  have hn13 : Ints w13 na nc [1, 0] := by
    have := ho.nus
    have e1 : ((List.range 2).map (fun r => Value.int .i64 (shP e9D r))) = [1, 0].map (Value.int .i64) := by
      show [Value.int .i64 (shP e9D 0), Value.int .i64 (shP e9D 1)] = _
      rw [e9D_sh0, e9D_sh1]
      rfl
    unfold NusF at this
    show Vs _ na nc _
    rw [← e1]
    exact this
  clear ho hb
  have Hbl := Lib.hid (allocs_below [.cells #[.int .i64 1, .int .i64 0] 3] w13)
  have Hs : Hid (Calls Try.prog 23 #[.slice na 2 nc, .slice (some ⟨w13.heap.size, 0, none⟩) 2 2] (allocs w13 [.cells #[.int .i64 1, .int .i64 0] 3]) (fun e w' => e = .returned (.bool true) ∧ Below (allocs w13 [.cells #[.int .i64 1, .int .i64 0] 3]).heap.size (allocs w13 [.cells #[.int .i64 1, .int .i64 0] 3]) w')) := Lib.hid (sameInts8_any na (some ⟨w13.heap.size, 0, none⟩) nc 2 [1, 0] [1, 0] (allocs w13 [.cells #[.int .i64 1, .int .i64 0] 3]) (hn13.grown Hbl.out) (lit_I w13 [1, 0] 2 rfl (by omega)))
  clear hn13
  go_wp2_with (fail)
  refine Hs.out.mono ?_
  rintro e w14 ⟨rfl, hb⟩
  have HV14 := Lib.hid (HV13.out.trans ((Hbl.out.trans (hb.mono Hbl.out.size)).mono HV13.out.size))
  have HQ14 := Lib.hid (HQ13.out.trans ((Hbl.out.trans (hb.mono Hbl.out.size)).mono HQ13.out.size))
  clear hb Hs Hbl
  have HB := Lib.hid (HwV.out.trans (HV14.out.mono hwV))
  go_wp2_with (fail)
  exact bodyPost_ret (v := .bool true) (by simp [results, Try.results13, go_sem]; try first | rfl | assumption | omega) rfl ⟨rfl, HB.out⟩
end Go.Proofs.Ytldmgifphkpdlaa

namespace Go.Proofs.Ytldmgifphkpdlaa
open Go.RowKit Go.Maps

attribute [local go_sem] Oper.semAt_some

theorem take_stepZ {l : List Int} {k : Nat} (h : k < l.length) (p : Int → Bool) : (l.take (k + 1)).filter p = (l.take k).filter p ++ (if p l[k] then [l[k]] else []) := by
  rw [List.take_add_one, List.getElem?_eq_getElem h, List.filter_append]
  congr 1
  by_cases hp : p l[k] <;> simp [hp]
/-- A number put into a rising list. -/
def withZ (l : List Int) (n : Int) : List Int := if n ∈ l then l else l.filter (fun a => decide (a < n)) ++ [n] ++ l.filter (fun a => decide (n < a))
theorem withZ_mem {l : List Int} {n x : Int} : x ∈ withZ l n ↔ x ∈ l ∨ x = n := by
  unfold withZ
  split
  · next h => exact ⟨.inl, fun h1 => h1.elim id (fun e => e ▸ h)⟩
  · next h =>
    simp only [List.mem_append, List.mem_filter, List.mem_singleton, decide_eq_true_eq]
    constructor
    · rintro ((⟨h1, _⟩ | h1) | ⟨h1, _⟩)
      · exact .inl h1
      · exact .inr h1
      · exact .inl h1
    · rintro (h1 | h1)
      · by_cases h2 : x < n
        · exact .inl (.inl ⟨h1, h2⟩)
        · exact .inr ⟨h1, by have : x ≠ n := fun e => h (e ▸ h1); omega⟩
      · exact .inl (.inr h1)
theorem withZ_up {l : List Int} {n : Int} (h : l.Pairwise (· < ·)) : (withZ l n).Pairwise (· < ·) := by
  unfold withZ
  split
  · exact h
  · rw [List.pairwise_append, List.pairwise_append]
    refine ⟨⟨h.filter _, by simp, fun a ha b hb => ?_⟩, h.filter _, fun a ha b hb => ?_⟩
    · rw [List.mem_filter, decide_eq_true_eq] at ha
      rw [List.mem_singleton] at hb
      omega
    · rw [List.mem_filter, decide_eq_true_eq] at hb
      rcases List.mem_append.1 ha with ha | ha
      · rw [List.mem_filter, decide_eq_true_eq] at ha
        omega
      · rw [List.mem_singleton] at ha
        omega
theorem Ris.with_ {l : List Int} {P : Int → Prop} (h : Ris l P) (n : Int) : Ris (withZ l n) (fun x => P x ∨ x = n) := ⟨withZ_up h.up, fun x => withZ_mem.trans (or_congr (h.mem x) Iff.rfl)⟩
/-- A slice lies in no block ahead of one. -/
def FrB (X : Nat) (a : Option Addr) : Prop := ∀ b off, a = some ⟨b, off, none⟩ → X ≤ b
set_option maxRecDepth 100000 in
set_option maxHeartbeats 16000000 in
theorem in9_any (l : List Int) (a : Option Addr) (cap : Nat) (v : Int) (w : World) (hl : Ints w a cap l) :
    Calls Try.prog 39 #[.slice a l.length cap, .int .i64 v] w fun e w' => e = .returned (.bool (decide (v ∈ l))) ∧ w' = w := by
  have hlm : l.length ≤ cap ∧ cap ≤ 9223372036854775807 := ⟨by have := hl.le; rw [List.length_map] at this; exact this, hl.max⟩
  obtain ⟨L, HL⟩ : ∃ L, Hid (l.length = L) := ⟨_, Lib.hid rfl⟩
  rw [HL.out] at hlm ⊢
  obtain ⟨B, HB⟩ : ∃ B, Hid (decide (v ∈ l) = B) := ⟨_, Lib.hid rfl⟩
  rw [HB.out]
  go_enter Try.func39, Try.ntmps39
  go_wp2_with (fail)
  go_loopw [6, 9] (fun _ i wr => ∃ (k : Nat), k ≤ L ∧ i = .int .i64 k ∧ Hid (B = decide (v ∈ l.drop k)) ∧ wr = w) (fun _ i _ => L - (RowKit.intOf i).toNat)
  case atStart => exact ⟨0, by omega, rfl, Lib.hid HB.out.symm, rfl⟩
  case round =>
    obtain ⟨k, hk, rfl, HR, hwr⟩ := hrel
    subst hwr
    by_cases hlt : k < L
    · have hkI : (k : Int) < (L : Int) := by omega
      have hkI0 : (0 : Int) ≤ (k : Int) := by omega
      have hkl : k < l.length := by rw [HL.out]; exact hlt
      obtain ⟨b, off, rfl⟩ := hl.at_ k (by rw [List.length_map]; exact hkl)
      have c0 := hl.cell b off rfl k (by rw [List.length_map]; exact hkl)
      rw [List.getElem_map] at c0
      have hbl := World.block_lt_of_cell? _ _ c0
      have hdr : Hid (l.drop k = l[k] :: l.drop (k + 1)) := Lib.hid (List.drop_eq_getElem_cons hkl)
      obtain ⟨u, hu⟩ : ∃ u, Hid (l[k] = u) := ⟨_, Lib.hid rfl⟩
      rw [hu.out] at c0 hdr
      by_cases he : u = v
      · have HT : Hid (B = true) := Lib.hid (by rw [HR.out, hdr.out, he]; simp)
        subst he
        go_wp2_with (fail)
        exact bodyPost_ret (v := .bool true) (by simp [results, Try.results39, go_sem]; try first | rfl | assumption | omega) rfl ⟨by rw [HT.out], rfl⟩
      · have heI : (u == v) = false := by rw [beq_eq_false_iff_ne]; exact he
        have HN : Hid (B = decide (v ∈ l.drop (k + 1))) := Lib.hid (by
          rw [HR.out, hdr.out]
          simp [Ne.symm he])
        go_wp2_with (fail)
        exact ⟨⟨k + 1, by omega, by go_num, HN, by first | rfl | trivial⟩, by simp [RowKit.intOf]; omega⟩
    · have hke : k = L := by omega
      have hkI : ¬ (k : Int) < (L : Int) := by omega
      have HK : Hid (B = false) := Lib.hid (by rw [HR.out, List.drop_eq_nil_of_le (by rw [HL.out]; omega)]; simp)
      clear hke
      go_wp2_with (fail)
      exact bodyPost_ret (v := .bool false) (by simp [results, Try.results39, go_sem]; try first | rfl | assumption | omega) rfl ⟨by rw [HK.out], rfl⟩
set_option maxRecDepth 100000 in
set_option maxHeartbeats 16000000 in
theorem with9_any (l : List Int) (x : Int) (a : Option Addr) (cap : Nat) (w : World) (hl : Ints w a cap l) (hll : l.length ≤ 100000000) :
    Calls Try.prog 75 #[.slice a l.length cap, .int .i64 x] w fun e w' => (∃ oa oc, e = .returned (.slice oa (withZ l x).length oc) ∧ Ints w' oa oc (withZ l x) ∧ (oa = a ∨ FrB w.heap.size oa)) ∧ Below w.heap.size w w' := by
  have hlm : l.length ≤ cap ∧ cap ≤ 9223372036854775807 := ⟨by have := hl.le; rw [List.length_map] at this; exact this, hl.max⟩
  have HI := Lib.hid (in9_any l a cap x w hl)
  obtain ⟨L, HL⟩ : ∃ L, Hid (l.length = L) := ⟨_, Lib.hid rfl⟩
  obtain ⟨B, hB⟩ : ∃ B, Hid (decide (x ∈ l) = B) := ⟨_, Lib.hid rfl⟩
  rw [hB.out, HL.out] at HI
  rw [HL.out] at hlm hll ⊢
  have Hl := Lib.hid hl
  clear hl
  go_enter Try.func75, Try.ntmps75
  go_wp2_with (fail)
  refine HI.out.mono ?_
  rintro e w1 ⟨rfl, rfl⟩
  cases B
  case true =>
    have HW : Hid (withZ l x = l) := Lib.hid (by rw [withZ, if_pos (of_decide_eq_true hB.out)])
    have HF : Hid ((∃ oa oc, Ending.returned (.slice a L cap) = .returned (.slice oa (withZ l x).length oc) ∧ Ints w1 oa oc (withZ l x) ∧ (oa = a ∨ FrB w1.heap.size oa)) ∧ Below w1.heap.size w1 w1) := Lib.hid ⟨⟨a, cap, by rw [HW.out, HL.out], by rw [HW.out]; exact Hl.out, .inl rfl⟩, Below.refl _ _⟩
    go_wp2_with (fail)
    exact bodyPost_ret (v := .slice a L cap) (by simp [results, Try.results75, go_sem]; try first | rfl | assumption | omega) rfl HF.out
  have HW : Hid (withZ l x = l.filter (fun a => decide (a < x)) ++ [x] ++ l.filter (fun a => decide (x < a))) := Lib.hid (by rw [withZ, if_neg (of_decide_eq_false hB.out)])
  go_wp2_with (fail)
  go_loopw [5, 16] (fun ov iv wr => ∃ (k n : Nat) (ra : Option Addr) (rc : Nat) (r : List Int), k ≤ L ∧ iv = .int .i64 (k : Int) ∧ ov = .slice ra n rc ∧ Hid (n = r.length) ∧ Hid (OwnKZ wr w1.heap.size ra rc r) ∧ Hid (r = (l.take k).filter (fun a => decide (a < x))) ∧ r.length ≤ k ∧ Below w1.heap.size w1 wr) (fun _ iv _ => L - (RowKit.intOf iv).toNat)
  case atStart => exact ⟨0, 0, none, 0, [], Nat.zero_le _, rfl, rfl, Lib.hid rfl, Lib.hid (OwnKZ.nil _ _), Lib.hid rfl, Nat.le_refl _, Below.refl _ _⟩
  case round =>
    obtain ⟨k, n, ra, rc, r, hk, rfl, rfl, hn, HO, Hr, hrl, hbr⟩ := hrel
    obtain ⟨U, rfl⟩ : ∃ U, U = wr := ⟨_, rfl⟩
    by_cases hlt : k < L
    · have hkI : (k : Int) < (L : Int) := by omega
      have hkI0 : (0 : Int) ≤ (k : Int) := by omega
      have hkl : k < l.length := by rw [HL.out]; exact hlt
      have hrow := Hl.out.grown hbr
      have Hts := Lib.hid (take_stepZ hkl (fun a => decide (a < x)))
      obtain ⟨b, off, hb⟩ := hrow.at_ k (by rw [List.length_map]; exact hkl)
      have c0 := hrow.cell b off hb k (by rw [List.length_map]; exact hkl)
      rw [List.getElem_map] at c0
      subst hb
      obtain ⟨v, hv⟩ : ∃ v, Hid (l[k] = v) := ⟨_, Lib.hid rfl⟩
      rw [hv.out] at c0 Hts
      have hbl := World.block_lt_of_cell? _ _ c0
      clear hrow
      by_cases hlv : v < x
      · obtain ⟨ra', rc', w', hr6, ho6, hg6, hlies⟩ := OwnKZ.push HO.out v 35 (by omega) hbr.size
        rw [← hn.out] at hr6
        have Hr6 := Lib.hid hr6
        have HO6 := Lib.hid ho6
        have hn6 : Hid (n + 1 = (r ++ [v]).length) := Lib.hid (by rw [List.length_append, ← hn.out]; rfl)
        have Hr7 : Hid (r ++ [v] = (l.take (k + 1)).filter (fun a => decide (a < x))) := Lib.hid (by rw [Hts.out, Hr.out, if_pos (decide_eq_true hlv)])
        have Hb6 := Lib.hid (hbr.trans (belowAt hg6 (B := w1.heap.size) (fun i e => (own_typ HO.out i e).1) hbr.size))
        clear hr6 ho6 hg6 hlies hbr HO Hr
        go_wp2_with (at_builtin; refine wpList_append_run rfl _ _ 35 35 rfl _ _ _ _ rfl rfl Hr6.out ?_)
        exact ⟨⟨k + 1, n + 1, ra', rc', r ++ [v], by omega, by go_num, rfl, hn6, HO6, Hr7, by rw [List.length_append, List.length_singleton]; omega, Hb6.out⟩, by simp [RowKit.intOf]; omega⟩
      · have Hr7 : Hid (r = (l.take (k + 1)).filter (fun a => decide (a < x))) := Lib.hid (by rw [Hts.out, if_neg (by simpa using hlv), List.append_nil]; exact Hr.out)
        clear Hr
        go_wp2_with (fail)
        exact ⟨⟨k + 1, n, ra, rc, r, by omega, by go_num, rfl, hn, HO, Hr7, by omega, hbr⟩, by simp [RowKit.intOf]; omega⟩
    · have hke : k = L := by omega
      have hkI : ¬ (k : Int) < (L : Int) := by omega
      rw [hke] at Hr
      rw [List.take_of_length_le (by rw [HL.out]; exact Nat.le_refl _)] at Hr
      clear hke
      obtain ⟨ra', rc', w', hr6, ho6, hg6, hlies⟩ := OwnKZ.push HO.out x 35 (by omega) hbr.size
      rw [← hn.out] at hr6
      have Hr6 := Lib.hid hr6
      have hn6 : Hid (n + 1 = (r ++ [x]).length) := Lib.hid (by rw [List.length_append, ← hn.out]; rfl)
      have Hb6 := Lib.hid (hbr.trans (belowAt hg6 (B := w1.heap.size) (fun i e => (own_typ HO.out i e).1) hbr.size))
      have hA1 : (r ++ [x]).length ≤ L + 1 := by rw [List.length_append, List.length_singleton]; omega
      obtain ⟨A, hA⟩ : ∃ A, Hid (r ++ [x] = A) := ⟨_, Lib.hid rfl⟩
      have hA2 : Hid (A = l.filter (fun a => decide (a < x)) ++ [x]) := Lib.hid (by rw [← hA.out, Hr.out])
      rw [hA.out] at ho6 hn6 hA1
      have HO6 := Lib.hid ho6
      obtain ⟨m, hm⟩ : ∃ q, Hid (n + 1 = q) := ⟨_, Lib.hid rfl⟩
      rw [hm.out] at hn6
      rw [show .slice ra' (n + 1) rc' = Value.slice ra' m rc' by rw [hm.out]] at Hr6
      clear hr6 ho6 hg6 hlies hbr HO Hr hn hrl
      go_wp2_with (at_builtin; refine wpList_append_run rfl _ _ 35 35 rfl _ _ _ _ rfl rfl Hr6.out ?_)
      go_loopw [5, 34] (fun ov iv wr => ∃ (k n : Nat) (ra : Option Addr) (rc : Nat) (r : List Int), k ≤ L ∧ iv = .int .i64 (k : Int) ∧ ov = .slice ra n rc ∧ Hid (n = r.length) ∧ Hid (OwnKZ wr w1.heap.size ra rc r) ∧ Hid (r = A ++ (l.take k).filter (fun a => decide (x < a))) ∧ r.length ≤ L + 1 + k ∧ Below w1.heap.size w1 wr) (fun _ iv _ => L - (RowKit.intOf iv).toNat)
      case atStart => exact ⟨0, m, ra', rc', A, Nat.zero_le _, rfl, rfl, hn6, HO6, Lib.hid (by simp), by omega, Hb6.out⟩
      case round =>
        obtain ⟨k, n, ra, rc, r, hk, rfl, rfl, hn, HO, Hr, hrl, hbr⟩ := hrel
        obtain ⟨U, rfl⟩ : ∃ U, U = wr := ⟨_, rfl⟩
        by_cases hlt : k < L
        · have hkI : (k : Int) < (L : Int) := by omega
          have hkI0 : (0 : Int) ≤ (k : Int) := by omega
          have hkl : k < l.length := by rw [HL.out]; exact hlt
          have hrow := Hl.out.grown hbr
          have Hts := Lib.hid (take_stepZ hkl (fun a => decide (x < a)))
          obtain ⟨b, off, hb⟩ := hrow.at_ k (by rw [List.length_map]; exact hkl)
          have c0 := hrow.cell b off hb k (by rw [List.length_map]; exact hkl)
          rw [List.getElem_map] at c0
          subst hb
          obtain ⟨v, hv⟩ : ∃ v, Hid (l[k] = v) := ⟨_, Lib.hid rfl⟩
          rw [hv.out] at c0 Hts
          have hbl := World.block_lt_of_cell? _ _ c0
          clear hrow
          by_cases hlv : x < v
          · obtain ⟨ra', rc', w', hr6, ho6, hg6, hlies⟩ := OwnKZ.push HO.out v 35 (by omega) hbr.size
            rw [← hn.out] at hr6
            have Hr6 := Lib.hid hr6
            have HO6 := Lib.hid ho6
            have hn6 : Hid (n + 1 = (r ++ [v]).length) := Lib.hid (by rw [List.length_append, ← hn.out]; rfl)
            have Hr7 : Hid (r ++ [v] = A ++ (l.take (k + 1)).filter (fun a => decide (x < a))) := Lib.hid (by rw [Hts.out, Hr.out, if_pos (decide_eq_true hlv), List.append_assoc])
            have Hb6 := Lib.hid (hbr.trans (belowAt hg6 (B := w1.heap.size) (fun i e => (own_typ HO.out i e).1) hbr.size))
            clear hr6 ho6 hg6 hlies hbr HO Hr
            go_wp2_with (at_builtin; refine wpList_append_run rfl _ _ 35 35 rfl _ _ _ _ rfl rfl Hr6.out ?_)
            exact ⟨⟨k + 1, n + 1, ra', rc', r ++ [v], by omega, by go_num, rfl, hn6, HO6, Hr7, by rw [List.length_append, List.length_singleton]; omega, Hb6.out⟩, by simp [RowKit.intOf]; omega⟩
          · have Hr7 : Hid (r = A ++ (l.take (k + 1)).filter (fun a => decide (x < a))) := Lib.hid (by rw [Hts.out, if_neg (by simpa using hlv), List.append_nil]; exact Hr.out)
            clear Hr
            go_wp2_with (fail)
            exact ⟨⟨k + 1, n, ra, rc, r, by omega, by go_num, rfl, hn, HO, Hr7, by omega, hbr⟩, by simp [RowKit.intOf]; omega⟩
        · have hke : k = L := by omega
          have hkI : ¬ (k : Int) < (L : Int) := by omega
          rw [hke] at Hr
          rw [List.take_of_length_le (by rw [HL.out]; exact Nat.le_refl _)] at Hr
          clear hke
          have HWr : Hid (withZ l x = r) := Lib.hid (by rw [HW.out, Hr.out, hA2.out])
          have HF : Hid ((∃ oa oc, Ending.returned (.slice ra n rc) = .returned (.slice oa (withZ l x).length oc) ∧ Ints U oa oc (withZ l x) ∧ (oa = a ∨ FrB w1.heap.size oa)) ∧ Below w1.heap.size w1 U) := Lib.hid ⟨⟨ra, rc, by rw [HWr.out, hn.out], by rw [HWr.out]; exact HO.out.vs, .inr (fun b off e => by
            subst e
            rcases HO.out.2 with ⟨e1, _⟩ | ⟨g, _, _, e1, hg, _⟩
            · cases e1
            · injection e1 with e1
              injection e1 with e1
              injection e1 with e1
              omega)⟩, hbr⟩
          clear HO Hr hbr
          go_wp2_with (fail)
          exact bodyPost_ret (v := .slice ra n rc) (by simp [results, Try.results75, go_sem]; try first | rfl | assumption | omega) rfl HF.out
end Go.Proofs.Ytldmgifphkpdlaa

namespace Go.Proofs.Ytldmgifphkpdlaa
open Go.RowKit Go.Maps

attribute [local go_sem] Oper.semAt_some

theorem OwnKZ.app {w : World} {base cap : Nat} {a : Option Addr} {l : List Int} (h : OwnKZ w base a cap l) (b : Option Addr) (bc : Nat) (m : List Int) (hm : Ints w b bc m) (ty : TypeId) (hn : l.length + m.length ≤ 1099511627780) (hb : base ≤ w.heap.size) :
    ∃ a' c' w', (Builtin.append_ #[35, 35] ty #[.slice a l.length cap, .slice b m.length bc]).run Try.prog w = .ok (.slice a' (l.length + m.length) c') w' ∧
      OwnKZ w' base a' c' (l ++ m) ∧ Below base w w' := by
  obtain ⟨i0, hi, hz0, hz1, hz2⟩ := info_parts info_keyZ
  cases b with
  | none =>
    have e0 := hm.nil_ rfl
    have hml : m = [] := by
      have := hm.le
      rw [e0] at this
      simpa using this
    subst e0
    subst hml
    exact ⟨a, cap, w, run_append_owned_none (P := Try.prog) w base _ ty _ i0 1 Try.underlying35 hi _ _ _ h, by simpa [OwnKZ] using h, Below.refl _ w⟩
  | some b' =>
    have hnew : ∀ j u, (m.map (Value.int .i64))[j]? = some u → w.cell? (b'.add j) = some u := by
      intro j u hj
      have hjl : j < (m.map (Value.int .i64)).length := (List.getElem?_eq_some_iff.1 hj).1
      obtain ⟨b2, off, e⟩ := hm.at_ j hjl
      have e := Option.some.inj e
      subst e
      have := hm.cell b2 off rfl j hjl
      rw [show (⟨b2, off, none⟩ : Addr).add j = ⟨b2, off + j, none⟩ from by unfold Addr.add; split <;> simp_all]
      exact this.trans ((List.getElem?_eq_getElem hjl).symm.trans hj)
    obtain ⟨v', w', hrun, ho, hg, _⟩ := run_append_own (P := Try.prog) w base 35 ty 3 i0 _ 1 8 Try.underlying35 hi hz0 hz1 hz2 rfl (by decide) _ l.length _ h b' m.length bc (m.map (Value.int .i64)) (by simp) hnew (fun u hu => by
      obtain ⟨x, _, rfl⟩ := List.mem_map.1 hu
      rfl) (by unfold maxLen; omega) (by omega) hb
    obtain ⟨a', cap', rfl⟩ := slice_of_own ho
    refine ⟨a', cap', w', hrun, ?_, belowAt hg (fun g e0 => (own_typ h g e0).1) hb⟩
    unfold OwnKZ
    rw [List.map_append, List.length_append]
    exact ho
/-- The numbers of a list that are a grammar's. -/
def witP (T n : Nat) (s : List Int) : List Int := s.filter (fun x => decide (-(n : Int) ≤ x) && decide (x < (T : Int)))
theorem witP_ok (T n : Nat) (s : List Int) : OkL T n (witP T n s) := fun x hx => by
  unfold witP at hx
  rw [List.mem_filter, Bool.and_eq_true, decide_eq_true_eq, decide_eq_true_eq] at hx
  exact hx.2
theorem witP_len (T n : Nat) (s : List Int) : (witP T n s).length ≤ s.length := List.length_filter_le _ _
set_option maxRecDepth 100000 in
set_option maxHeartbeats 16000000 in
theorem within_any (d : CfD) (s : List Int) (sa : Option Addr) (sc : Nat) (w : World) (hs : Ints w sa sc s) (hsl : s.length ≤ 1000) (hr : ∀ x ∈ s, -9223372036854775808 ≤ x ∧ x ≤ 9223372036854775807) (hd : CfAt w d) (hn1 : d.alts.length ≤ 1000 ∧ d.toks.length ≤ 1000) :
    Calls Try.prog 26 #[d.v, .slice sa s.length sc] w fun e w' => ∃ a c, e = .returned (.slice a (witP d.toks.length d.alts.length s).length c) ∧ OwnKZ w' w.heap.size a c (witP d.toks.length d.alts.length s) ∧ Below w.heap.size w w' := by
  obtain ⟨xt, xta, xtc, xn, xna, xnc, xa, xaa, xac⟩ := d
  have hxm : xa.length ≤ xac ∧ xac ≤ 9223372036854775807 := ⟨by have := hd.alts.le; rwa [List.length_map] at this, hd.alts.max⟩
  have htm : xt.length ≤ xtc ∧ xtc ≤ 9223372036854775807 := ⟨by have := hd.toks.le; rwa [List.length_map] at this, hd.toks.max⟩
  have hsm : s.length ≤ sc ∧ sc ≤ 9223372036854775807 := ⟨by have := hs.le; rwa [List.length_map] at this, hs.max⟩
  dsimp only [CfD.v] at *
  have hb1 : Below w.heap.size w (w.alloc (.cells #[.slice xta xt.length xtc, .slice xna xn.length xnc, .slice xaa xa.length xac] 25)) := (Below.refl _ w).alloc (Nat.le_refl _) _
  have hA := Blk.new w 25 #[.slice xta xt.length xtc, .slice xna xn.length xnc, .slice xaa xa.length xac]
  obtain ⟨T, HT⟩ : ∃ q, Hid (xt.length = q) := ⟨_, Lib.hid rfl⟩
  obtain ⟨N, HN⟩ : ∃ q, Hid (xn.length = q) := ⟨_, Lib.hid rfl⟩
  obtain ⟨L, HL⟩ : ∃ q, Hid (xa.length = q) := ⟨_, Lib.hid rfl⟩
  obtain ⟨S, HS⟩ : ∃ q, Hid (s.length = q) := ⟨_, Lib.hid rfl⟩
  rw [HT.out, HN.out, HL.out] at hA hb1
  rw [HL.out] at hxm hn1
  rw [HT.out] at htm hn1
  rw [HS.out] at hsl hsm
  rw [HT.out, HN.out, HL.out, HS.out]
  have x0 := hA.cell 0
  have x2 := hA.cell 2
  have xl := hA.lt
  simp only [List.getElem?_cons_zero, List.getElem?_cons_succ] at x0 x2
  have HA := Lib.hid hA
  have Hb1 := Lib.hid hb1
  have Hs := Lib.hid hs
  have Hr := Lib.hid hr
  clear hd hA hb1 hs hr
  go_enter Try.func26, Try.ntmps26
  go_wp2_with (fail)
  obtain ⟨bx, hbx⟩ : ∃ q, Hid (w.heap.size = q) := ⟨_, Lib.hid rfl⟩
  rw [hbx.out] at HA xl x0 x2 Hb1 ⊢
  have hbxW : w.heap.size = bx := hbx.out
  generalize hV : World.alloc w _ = V at HA x0 x2 xl Hb1 ⊢
  clear hV x0 x2 xl
  go_loopw [5, 10] (fun ov iv wr => ∃ (k n : Nat) (ra : Option Addr) (rc : Nat) (r : List Int), k ≤ S ∧ iv = .int .i64 (k : Int) ∧ ov = .slice ra n rc ∧ Hid (n = r.length) ∧ Hid (OwnKZ wr bx ra rc r) ∧ Hid (r = (s.take k).filter (fun x => decide (-(L : Int) ≤ x) && decide (x < (T : Int)))) ∧ r.length ≤ k ∧ Hid (Blk wr bx 25 [.slice xta T xtc, .slice xna N xnc, .slice xaa L xac]) ∧ Below bx w wr) (fun _ iv _ => S - (RowKit.intOf iv).toNat)
  case atStart => exact ⟨0, 0, none, 0, [], Nat.zero_le _, rfl, rfl, Lib.hid rfl, Lib.hid (OwnKZ.nil _ _), Lib.hid rfl, Nat.le_refl _, HA, Hb1.out⟩
  case round =>
    clear HA Hb1
    obtain ⟨k, n, ra, rc, r, hk, rfl, rfl, hn, HO, HR, hrl, HA, hbr⟩ := hrel
    obtain ⟨U, rfl⟩ : ∃ U, U = wr := ⟨_, rfl⟩
    by_cases hlt : k < S
    · have hkI : (k : Int) < (S : Int) := by omega
      have hkI0 : (0 : Int) ≤ (k : Int) := by omega
      have hkl : k < s.length := by rw [HS.out]; exact hlt
      have hbr2 := hbr
      rw [← hbx.out] at hbr2
      have hrow := Hs.out.grown hbr2
      have Hts := Lib.hid (take_stepZ hkl (fun x => decide (-(L : Int) ≤ x) && decide (x < (T : Int))))
      have hrg := Hr.out _ (List.getElem_mem hkl)
      obtain ⟨b, bo, hb⟩ := hrow.at_ k (by rw [List.length_map]; exact hkl)
      have cb := hrow.cell b bo hb k (by rw [List.length_map]; exact hkl)
      rw [List.getElem_map] at cb
      obtain ⟨x, hx⟩ : ∃ v, Hid (s[k] = v) := ⟨_, Lib.hid rfl⟩
      rw [hx.out] at cb Hts hrg
      have hblb := World.block_lt_of_cell? _ _ cb
      subst hb
      have x0 := HA.out.cell 0
      have x2 := HA.out.cell 2
      have xl := HA.out.lt
      simp only [List.getElem?_cons_zero, List.getElem?_cons_succ] at x0 x2
      clear hrow hbr2
      by_cases hin : -(L : Int) ≤ x ∧ x < (T : Int)
      · obtain ⟨ra', rc', w', hr6, ho6, hg6, hlies⟩ := OwnKZ.push HO.out x 35 (by omega) (by have := hbr.size; omega)
        rw [← hn.out] at hr6
        have Hr6 := Lib.hid hr6
        have HO6 := Lib.hid ho6
        have hn6 : Hid (n + 1 = (r ++ [x]).length) := Lib.hid (by rw [List.length_append, ← hn.out]; rfl)
        have HR7 : Hid (r ++ [x] = (s.take (k + 1)).filter (fun x => decide (-(L : Int) ≤ x) && decide (x < (T : Int)))) := Lib.hid (by rw [Hts.out, HR.out, if_pos (by simp [hin.1, hin.2])])
        have HA7 := Lib.hid (HA.out.kept hg6 (fun e => own_ne_ty HO.out HA.out (by decide) e.symm))
        have Hb6 := Lib.hid (hbr.trans (belowAt hg6 (B := bx) (fun i e => (own_typ HO.out i e).1) (by have := hbr.size; omega)))
        clear hr6 ho6 hg6 hlies hbr HO HR HA
        by_cases h0 : x < 0
        · have hw : IntKind.i64.wrap (-1 - x) = -1 - x := IntWalk.i64_in _ (by omega)
          have hI : -1 - x < (L : Int) := by omega
          have hge : ¬ (0 : Int) ≤ x := by omega
          go_wp2_with (at_builtin; refine wpList_append_run rfl _ _ 35 35 rfl _ _ _ _ rfl rfl Hr6.out ?_)
          exact ⟨⟨k + 1, n + 1, ra', rc', r ++ [x], by omega, by go_num, rfl, hn6, HO6, HR7, by rw [List.length_append, List.length_singleton]; omega, HA7, Hb6.out⟩, by simp [RowKit.intOf]; omega⟩
        · have hge : (0 : Int) ≤ x := by omega
          have hI : x < (T : Int) := hin.2
          go_wp2_with (at_builtin; refine wpList_append_run rfl _ _ 35 35 rfl _ _ _ _ rfl rfl Hr6.out ?_)
          exact ⟨⟨k + 1, n + 1, ra', rc', r ++ [x], by omega, by go_num, rfl, hn6, HO6, HR7, by rw [List.length_append, List.length_singleton]; omega, HA7, Hb6.out⟩, by simp [RowKit.intOf]; omega⟩
      · have HR7 : Hid (r = (s.take (k + 1)).filter (fun x => decide (-(L : Int) ≤ x) && decide (x < (T : Int)))) := Lib.hid (by rw [Hts.out, if_neg (by simpa using hin), List.append_nil]; exact HR.out)
        by_cases h0 : x < 0
        · have hw : IntKind.i64.wrap (-1 - x) = -1 - x := IntWalk.i64_in _ (by omega)
          have hI : ¬ -1 - x < (L : Int) := by omega
          have hge : ¬ (0 : Int) ≤ x := by omega
          clear hin
          go_wp2_with (fail)
          exact ⟨⟨k + 1, n, ra, rc, r, by omega, by go_num, rfl, hn, HO, HR7, by omega, HA, hbr⟩, by simp [RowKit.intOf]; omega⟩
        · have hge : (0 : Int) ≤ x := by omega
          have hI : ¬ x < (T : Int) := by omega
          clear hin
          go_wp2_with (fail)
          exact ⟨⟨k + 1, n, ra, rc, r, by omega, by go_num, rfl, hn, HO, HR7, by omega, HA, hbr⟩, by simp [RowKit.intOf]; omega⟩
    · have hke : k = S := by omega
      have hkI : ¬ (k : Int) < (S : Int) := by omega
      have HW : Hid (witP T L s = r) := Lib.hid (by rw [HR.out, hke, List.take_of_length_le (by rw [HS.out]; exact Nat.le_refl _)]; rfl)
      have HF : Hid (∃ a c, Ending.returned (.slice ra n rc) = .returned (.slice a (witP T L s).length c) ∧ OwnKZ U bx a c (witP T L s) ∧ Below bx w U) := Lib.hid ⟨ra, rc, by rw [HW.out, hn.out], by rw [HW.out]; exact HO.out, hbr⟩
      clear hke HO HR hbr HA
      go_wp2_with (fail)
      exact bodyPost_ret (v := .slice ra n rc) (by simp [results, Try.results26, go_sem]; try first | rfl | assumption | omega) rfl HF.out
end Go.Proofs.Ytldmgifphkpdlaa

namespace Go.Proofs.Ytldmgifphkpdlaa
open Go.RowKit Go.Maps

attribute [local go_sem] Oper.semAt_some

/-- What begins a list is a grammar's token. -/
theorem tok_near {d : CfD} (hf : FitC d) {f : Nat → Bool} {l : List Int} (hl : OkL d.toks.length d.alts.length l) {t : Int} (h : TokP (d.alts.map IrD.p) f l t) : 0 ≤ t ∧ t ≤ 100 := by
  have := rchd_near hf (fun x hx => ⟨(hl x hx).1, by have := (hl x hx).2; have := hf.t; omega⟩) h.2
  exact ⟨h.1, this.2⟩
theorem ris_len101 {l : List Int} {P : Int → Prop} (h : Ris l P) (hP : ∀ t, P t → 0 ≤ t ∧ t ≤ 100) : l.length ≤ 300 := by
  have := ris_len h (nearU 0) (fun x hx => nearU_mem.2 (by have := hP x hx; omega))
  have e : (nearU 0).length = 300 := by unfold nearU; rw [List.length_map, List.length_range]
  omega
theorem ris_take {y : List Int} {P : Int → Prop} {r : List Int} {k : Nat} (h : k < y.length) (hr : Ris r (fun t => P t ∨ t ∈ y.take k)) : Ris (withZ r y[k]) (fun t => P t ∨ t ∈ y.take (k + 1)) := by
  refine ⟨withZ_up hr.up, fun t => ?_⟩
  rw [withZ_mem, hr.mem t, List.take_add_one, List.getElem?_eq_getElem h, List.mem_append]
  constructor
  · rintro ((h1 | h1) | h1)
    · exact .inl h1
    · exact .inr (.inl h1)
    · exact .inr (.inr (by simp [h1]))
  · rintro (h1 | h1 | h1)
    · exact .inl (.inl h1)
    · exact .inl (.inr h1)
    · exact .inr (by simpa using h1)
end Go.Proofs.Ytldmgifphkpdlaa

namespace Go.Proofs.Ytldmgifphkpdlaa
open Go.RowKit Go.Maps

attribute [local go_sem] Oper.semAt_some

set_option maxRecDepth 100000 in
set_option maxHeartbeats 16000000 in
theorem rule9_any (d : CfD) (x : Int) (w : World) (hd : CfAt w d) (hx : -(d.alts.length : Int) ≤ x ∧ x ≤ 1000000000) (hl : d.alts.length ≤ 1000000) :
    Calls Try.prog 66 #[d.v, .int .i64 x] w fun e w' => e = .returned (.int .i64 (if x < 0 then ((ruL x : Nat) : Int) else -1)) ∧ Below w.heap.size w w' := by
  obtain ⟨xt, xta, xtc, xn, xna, xnc, xa, xaa, xac⟩ := d
  have hxm : xa.length ≤ xac ∧ xac ≤ 9223372036854775807 := ⟨by have := hd.alts.le; rwa [List.length_map] at this, hd.alts.max⟩
  dsimp only [CfD.v] at *
  have hb1 : Below w.heap.size w (w.alloc (.cells #[.slice xta xt.length xtc, .slice xna xn.length xnc, .slice xaa xa.length xac] 25)) := (Below.refl _ w).alloc (Nat.le_refl _) _
  have hA := Blk.new w 25 #[.slice xta xt.length xtc, .slice xna xn.length xnc, .slice xaa xa.length xac]
  obtain ⟨T, HT⟩ : ∃ q, Hid (xt.length = q) := ⟨_, Lib.hid rfl⟩
  obtain ⟨N, HN⟩ : ∃ q, Hid (xn.length = q) := ⟨_, Lib.hid rfl⟩
  obtain ⟨L, HL⟩ : ∃ q, Hid (xa.length = q) := ⟨_, Lib.hid rfl⟩
  rw [HT.out, HN.out, HL.out] at hA hb1
  rw [HT.out, HN.out, HL.out]
  have x0 := hA.cell 0
  have x1 := hA.cell 1
  have x2 := hA.cell 2
  have xl := hA.lt
  simp only [List.getElem?_cons_zero, List.getElem?_cons_succ] at x0 x1 x2
  have HA := Lib.hid hA
  have Hb1 := Lib.hid hb1
  rw [HL.out] at hxm hx hl
  clear hd hA hb1 HA
  by_cases h0 : x < 0
  · rw [if_pos h0]
    obtain ⟨r, hr⟩ : ∃ r, Hid (ruL x = r) := ⟨_, Lib.hid rfl⟩
    have hxr : x = -1 - (r : Int) := by rw [← hr.out]; exact (of_ruL h0).symm
    rw [hr.out]
    clear hr
    subst hxr
    have hw : IntKind.i64.wrap (-1 - (-1 - (r : Int))) = (r : Int) := by rw [show (-1 - (-1 - (r : Int))) = (r : Int) by omega]; exact IntWalk.i64_in _ (by omega)
    have hI : (r : Int) < (L : Int) := by omega
    go_enter Try.func66, Try.ntmps66
    go_wp2_with (fail)
    exact bodyPost_ret (v := .int .i64 (r : Int)) (by simp [results, Try.results66, go_sem]; try first | rfl | assumption | omega) rfl ⟨rfl, Hb1.out⟩
  · rw [if_neg h0]
    go_enter Try.func66, Try.ntmps66
    go_wp2_with (fail)
    exact bodyPost_ret (v := .int .i64 (-1)) (by simp [results, Try.results66, go_sem]; try first | rfl | assumption | omega) rfl ⟨rfl, Hb1.out⟩
set_option maxRecDepth 100000 in
set_option maxHeartbeats 16000000 in
theorem emp9_any (d : CfD) (s : List Int) (sa : Option Addr) (sc : Nat) (na : Option Addr) (nc : Nat) (f : Nat → Bool) (w : World) (hd : CfAt w d) (hs : Ints w sa sc s) (hn : BlsF w na nc d.alts.length f) (hx : ∀ x ∈ s, -(d.alts.length : Int) ≤ x ∧ x ≤ 1000000000) (hl : d.alts.length ≤ 1000000) :
    Calls Try.prog 53 #[d.v, .slice sa s.length sc, .slice na d.alts.length nc] w fun e w' => e = .returned (.bool (emp f s)) ∧ Below w.heap.size w w' := by
  have HR := Lib.hid (fun x (hx : -(d.alts.length : Int) ≤ x ∧ x ≤ 1000000000) W (hb : Below w.heap.size w W) => rule9_any d x W (hd.grown hb) hx hl)
  have hsm : s.length ≤ sc ∧ sc ≤ 9223372036854775807 := ⟨by have := hs.le; rwa [List.length_map] at this, hs.max⟩
  have hnm : d.alts.length ≤ nc ∧ nc ≤ 9223372036854775807 := ⟨by have := hn.le; simpa using this, hn.max⟩
  have Hs := Lib.hid hs
  have Hn := Lib.hid hn
  have Hx := Lib.hid hx
  obtain ⟨xt, xta, xtc, xn, xna, xnc, xa, xaa, xac⟩ := d
  dsimp only [CfD.v] at *
  have hb1 : Below w.heap.size w (w.alloc (.cells #[.slice xta xt.length xtc, .slice xna xn.length xnc, .slice xaa xa.length xac] 25)) := (Below.refl _ w).alloc (Nat.le_refl _) _
  have hA := Blk.new w 25 #[.slice xta xt.length xtc, .slice xna xn.length xnc, .slice xaa xa.length xac]
  obtain ⟨T, HT⟩ : ∃ q, Hid (xt.length = q) := ⟨_, Lib.hid rfl⟩
  obtain ⟨N, HN⟩ : ∃ q, Hid (xn.length = q) := ⟨_, Lib.hid rfl⟩
  obtain ⟨L, HL⟩ : ∃ q, Hid (xa.length = q) := ⟨_, Lib.hid rfl⟩
  rw [HT.out, HN.out, HL.out] at hA hb1
  rw [HT.out, HN.out, HL.out]
  have x0 := hA.cell 0
  have x1 := hA.cell 1
  have x2 := hA.cell 2
  have xl := hA.lt
  simp only [List.getElem?_cons_zero, List.getElem?_cons_succ] at x0 x1 x2
  have HA := Lib.hid hA
  have Hb1 := Lib.hid hb1
  obtain ⟨S, HS⟩ : ∃ q, Hid (s.length = q) := ⟨_, Lib.hid rfl⟩
  rw [HS.out] at hsm ⊢
  rw [HL.out] at hnm hl Hn Hx
  rw [HT.out, HN.out, HL.out] at HR
  obtain ⟨B, HB⟩ : ∃ q, Hid (emp f s = q) := ⟨_, Lib.hid rfl⟩
  rw [HB.out]
  clear hd hA hb1 hs hn hx
  go_enter Try.func53, Try.ntmps53
  go_wp2_with (fail)
  obtain ⟨bx, hbx⟩ : ∃ q, Hid (w.heap.size = q) := ⟨_, Lib.hid rfl⟩
  rw [hbx.out] at HA x0 x1 x2 xl ⊢
  generalize hV : World.alloc w _ = V at HA x0 x1 x2 xl Hb1 ⊢
  clear hV x0 x1 x2 xl
  go_loopw [12] (fun iv wr => ∃ k : Nat, k ≤ S ∧ iv = .int .i64 (k : Int) ∧ Hid (B = emp f (s.drop k)) ∧ Hid (Blk wr bx 25 [.slice xta T xtc, .slice xna N xnc, .slice xaa L xac]) ∧ Below w.heap.size w wr) (fun iv _ => S - (RowKit.intOf iv).toNat)
  case atStart => exact ⟨0, Nat.zero_le _, rfl, Lib.hid HB.out.symm, HA, Hb1.out⟩
  case round =>
    clear HA Hb1
    obtain ⟨k, hk, rfl, HE, HA, hbr⟩ := hrel
    obtain ⟨U, rfl⟩ : ∃ U, U = wr := ⟨_, rfl⟩
    by_cases hlt : k < S
    · have hkI : (k : Int) < (S : Int) := by omega
      have hkI0 : (0 : Int) ≤ (k : Int) := by omega
      have hkl : k < s.length := by rw [HS.out]; exact hlt
      have hrow := Hs.out.grown hbr
      have hdr := List.drop_eq_getElem_cons hkl
      obtain ⟨b, bo, hb⟩ := hrow.at_ k (by rw [List.length_map]; exact hkl)
      have cb := hrow.cell b bo hb k (by rw [List.length_map]; exact hkl)
      rw [List.getElem_map] at cb
      have hm := Hx.out _ (List.getElem_mem hkl)
      obtain ⟨x, hx⟩ : ∃ v, Hid (s[k] = v) := ⟨_, Lib.hid rfl⟩
      rw [hx.out] at cb hm hdr
      have hblb := World.block_lt_of_cell? _ _ cb
      subst hb
      have x0 := HA.out.cell 0
      have x1 := HA.out.cell 1
      have x2 := HA.out.cell 2
      have xl := HA.out.lt
      simp only [List.getElem?_cons_zero, List.getElem?_cons_succ] at x0 x1 x2
      have HE2 : Hid (B = ((decide (x < 0) && f (ruL x)) && emp f (s.drop (k + 1)))) := Lib.hid (by rw [HE.out, hdr, emp_cons])
      have Hru := Lib.hid (HR.out x hm U hbr)
      clear hrow hdr
      by_cases h0 : x < 0
      · rw [if_pos h0] at Hru
        rw [decide_eq_true h0, Bool.true_and] at HE2
        have hrL : ruL x < L := by unfold ruL; omega
        obtain ⟨r, hr⟩ : ∃ r, Hid (ruL x = r) := ⟨_, Lib.hid rfl⟩
        rw [hr.out] at Hru HE2 hrL
        have hrI : (r : Int) < (L : Int) := by omega
        have hrI0 : (0 : Int) ≤ (r : Int) := by omega
        go_wp2_with (fail)
        refine Hru.out.mono ?_
        rintro e w3 ⟨rfl, hb3⟩
        have Hb3 := Lib.hid (hbr.trans (hb3.mono hbr.size))
        have HA3 := Lib.hid (HA.out.below hb3 HA.out.lt)
        have hn3 := Vs.grown Hn.out Hb3.out
        obtain ⟨n0, no, hn0⟩ := hn3.at_ r (by simpa using hrL)
        have cn := hn3.cell n0 no hn0 r (by simpa using hrL)
        rw [range_at] at cn
        have hbln := World.block_lt_of_cell? _ _ cn
        subst hn0
        obtain ⟨q, hq⟩ : ∃ v, Hid (f r = v) := ⟨_, Lib.hid rfl⟩
        rw [hq.out] at cn HE2
        clear x0 x1 x2 xl hb3 hn3 hbr
        cases q
        · have HBf : Hid (B = false) := Lib.hid (by rw [HE2.out]; rfl)
          go_wp2_with (fail)
          exact bodyPost_ret (v := .bool false) (by simp [results, Try.results53, go_sem]; try first | rfl | assumption | omega) rfl ⟨by rw [HBf.out], Hb3.out⟩
        · have HBn : Hid (B = emp f (s.drop (k + 1))) := Lib.hid (by rw [HE2.out]; rfl)
          go_wp2_with (fail)
          exact ⟨⟨k + 1, by omega, by go_num, HBn, HA3, Hb3.out⟩, by simp [RowKit.intOf]; omega⟩
      · rw [if_neg h0] at Hru
        rw [decide_eq_false h0, Bool.false_and, Bool.false_and] at HE2
        go_wp2_with (fail)
        refine Hru.out.mono ?_
        rintro e w3 ⟨rfl, hb3⟩
        have Hb3 := Lib.hid (hbr.trans (hb3.mono hbr.size))
        clear x0 x1 x2 xl hb3 hbr
        go_wp2_with (fail)
        exact bodyPost_ret (v := .bool false) (by simp [results, Try.results53, go_sem]; try first | rfl | assumption | omega) rfl ⟨by rw [HE2.out], Hb3.out⟩
    · have hke : k = S := by omega
      have hkI : ¬ (k : Int) < (S : Int) := by omega
      have HBt : Hid (B = true) := Lib.hid (by rw [HE.out, List.drop_eq_nil_of_le (by rw [HS.out]; omega)]; rfl)
      clear hke
      go_wp2_with (fail)
      exact bodyPost_ret (v := .bool true) (by simp [results, Try.results53, go_sem]; try first | rfl | assumption | omega) rfl ⟨by rw [HBt.out], hbr⟩
set_option maxRecDepth 100000 in
set_option maxHeartbeats 16000000 in
theorem all9_any (l m : List Int) (a b : Option Addr) (ac bc : Nat) (P : Int → Prop) (w : World) (hl : Ints w a ac l) (hm : Ints w b bc m) (hr : Ris l P) (hP : ∀ t, P t → 0 ≤ t ∧ t ≤ 100) (hmr : ∀ t ∈ m, 0 ≤ t ∧ t ≤ 100) :
    Calls Try.prog 58 #[.slice a l.length ac, .slice b m.length bc] w fun e w' => ∃ oa oc, ∃ r : List Int, e = .returned (.slice oa r.length oc) ∧ Ints w' oa oc r ∧ Ris r (fun t => P t ∨ t ∈ m) ∧ (oa = a ∨ FrB w.heap.size oa) ∧ Below w.heap.size w w' := by
  have hmm : m.length ≤ bc ∧ bc ≤ 9223372036854775807 := ⟨by have := hm.le; rwa [List.length_map] at this, hm.max⟩
  obtain ⟨L, HL⟩ : ∃ q, Hid (l.length = q) := ⟨_, Lib.hid rfl⟩
  obtain ⟨M, HM⟩ : ∃ q, Hid (m.length = q) := ⟨_, Lib.hid rfl⟩
  rw [HM.out] at hmm ⊢
  rw [HL.out]
  have Hl := Lib.hid hl
  have Hm := Lib.hid hm
  have Hr := Lib.hid hr
  have HP := Lib.hid hP
  have Hmr := Lib.hid hmr
  clear hl hm hr hP hmr
  go_enter Try.func58, Try.ntmps58
  go_wp2_with (fail)
  go_loopw [0, 9] (fun sv iv wr => ∃ (k n : Nat) (oa : Option Addr) (oc : Nat) (r : List Int), k ≤ M ∧ iv = .int .i64 (k : Int) ∧ sv = .slice oa n oc ∧ Hid (n = r.length) ∧ Hid (Ints wr oa oc r) ∧ Hid (Ris r (fun t => P t ∨ t ∈ m.take k)) ∧ Hid (oa = a ∨ FrB w.heap.size oa) ∧ Below w.heap.size w wr) (fun _ iv _ => M - (RowKit.intOf iv).toNat)
  case atStart => exact ⟨0, L, a, ac, l, Nat.zero_le _, rfl, rfl, Lib.hid HL.out.symm, Hl, Lib.hid ⟨Hr.out.up, fun t => by rw [Hr.out.mem t]; simp⟩, Lib.hid (.inl rfl), Below.refl _ _⟩
  case round =>
    obtain ⟨k, n, oa, oc, r, hk, rfl, rfl, hn, HI, HR, HF, hbr⟩ := hrel
    obtain ⟨U, rfl⟩ : ∃ U, U = wr := ⟨_, rfl⟩
    by_cases hlt : k < M
    · have hkI : (k : Int) < (M : Int) := by omega
      have hkI0 : (0 : Int) ≤ (k : Int) := by omega
      have hkl : k < m.length := by rw [HM.out]; exact hlt
      have hrow := Hm.out.grown hbr
      have HRn := Lib.hid (ris_take hkl HR.out)
      have hrl : r.length ≤ 300 := ris_len101 HR.out (fun t ht => ht.elim (HP.out t) (fun h => Hmr.out t (List.mem_of_mem_take h)))
      obtain ⟨b9, b9o, hb9⟩ := hrow.at_ k (by rw [List.length_map]; exact hkl)
      have cb9 := hrow.cell b9 b9o hb9 k (by rw [List.length_map]; exact hkl)
      rw [List.getElem_map] at cb9
      obtain ⟨x, hx⟩ : ∃ v, Hid (m[k] = v) := ⟨_, Lib.hid rfl⟩
      rw [hx.out] at cb9 HRn
      have hblb9 := World.block_lt_of_cell? _ _ cb9
      subst hb9
      have Hw := Lib.hid (with9_any r x oa oc U HI.out (by omega))
      rw [← hn.out] at Hw
      clear hrow hrl
      go_wp2_with (fail)
      refine Hw.out.mono ?_
      rintro e w9 ⟨⟨oa2, oc2, rfl, hi9, hf9⟩, hb9⟩
      have HI9 := Lib.hid hi9
      have HF9 : Hid (oa2 = a ∨ FrB w.heap.size oa2) := Lib.hid (by
        rcases hf9 with rfl | hf9
        · exact HF.out
        · exact .inr (fun b off e => Nat.le_trans hbr.size (hf9 b off e)))
      have Hb9 := Lib.hid (hbr.trans (hb9.mono hbr.size))
      clear hi9 hb9 hf9 Hw
      go_wp2_with (fail)
      exact ⟨⟨k + 1, _, oa2, oc2, _, by omega, by go_num, rfl, Lib.hid rfl, HI9, HRn, HF9, Hb9.out⟩, by simp [RowKit.intOf]; omega⟩
    · have hke : k = M := by omega
      have hkI : ¬ (k : Int) < (M : Int) := by omega
      have HRe : Hid (Ris r (fun t => P t ∨ t ∈ m)) := Lib.hid (by have := HR.out; rwa [hke, List.take_of_length_le (by rw [HM.out]; exact Nat.le_refl _)] at this)
      have HFin : Hid (∃ oa' oc', ∃ r' : List Int, Ending.returned (.slice oa n oc) = .returned (.slice oa' r'.length oc') ∧ Ints U oa' oc' r' ∧ Ris r' (fun t => P t ∨ t ∈ m) ∧ (oa' = a ∨ FrB w.heap.size oa') ∧ Below w.heap.size w U) := Lib.hid ⟨oa, oc, r, by rw [hn.out], HI.out, HRe.out, HF.out, hbr⟩
      clear hke hbr
      go_wp2_with (fail)
      exact bodyPost_ret (v := .slice oa n oc) (by simp [results, Try.results58, go_sem]; try first | rfl | assumption | omega) rfl HFin.out
end Go.Proofs.Ytldmgifphkpdlaa

