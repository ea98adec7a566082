/- Texts joined: Qr Qs Km Qt Qv. -/
import Derived.Test.YtldmgifphkpdlaaRVAy
import Derived.Test.YtldmgifphkpdlaaRVAq
import Derived.Test.YtldmgifphkpdlaaRVAg
set_option linter.unusedVariables false
set_option linter.unusedSimpArgs false
namespace Go.Proofs.Ytldmgifphkpdlaa
open Go.RowKit Go.Maps
attribute [local go_sem] Oper.semAt_some
def e10Os (h : Nat) : List Obj := [.cells #[.string ⟨#[97]⟩, .string ⟨#[98]⟩] 9, .cells #[.string ⟨#[83]⟩] 9, .cells #[.int .i64 0, .int .i64 (-1), .int .i64 1] 3, .cells #[.slice (some ⟨h + 1 + 1, 0, none⟩) 3 3, .slice none 0 0] 35, .cells #[.slice (some ⟨h + 1 + 1 + 1, 0, none⟩) 2 2] 32, .cells #[.slice (some ⟨h, 0, none⟩) 2 2, .slice (some ⟨h + 1, 0, none⟩) 1 1, .slice (some ⟨h + 1 + 1 + 1 + 1, 0, none⟩) 1 1] 25, .cells #[.string ⟨#[97]⟩, .string ⟨#[98]⟩] 9, .cells #[.string ⟨#[83]⟩] 9, .cells #[.int .i64 0] 3, .cells #[.int .i64 0, .int .i64 1] 3, .cells #[.slice (some ⟨h + 1 + 1 + 1 + 1 + 1 + 1 + 1 + 1, 0, none⟩) 1 1, .slice (some ⟨h + 1 + 1 + 1 + 1 + 1 + 1 + 1 + 1 + 1, 0, none⟩) 2 2] 35, .cells #[.slice (some ⟨h + 1 + 1 + 1 + 1 + 1 + 1 + 1 + 1 + 1 + 1, 0, none⟩) 2 2] 32, .cells #[.slice (some ⟨h + 1 + 1 + 1 + 1 + 1 + 1, 0, none⟩) 2 2, .slice (some ⟨h + 1 + 1 + 1 + 1 + 1 + 1 + 1, 0, none⟩) 1 1, .slice (some ⟨h + 1 + 1 + 1 + 1 + 1 + 1 + 1 + 1 + 1 + 1 + 1, 0, none⟩) 1 1] 25]
def e10CD (h : Nat) : CfD := ⟨[⟨#[97]⟩, ⟨#[98]⟩], some ⟨h, 0, none⟩, 2, [⟨#[83]⟩], some ⟨h + 1, 0, none⟩, 1, [⟨[⟨[0, -1, 1], some ⟨h + 1 + 1, 0, none⟩, 3⟩, ⟨[], none, 0⟩], some ⟨h + 1 + 1 + 1, 0, none⟩, 2⟩], some ⟨h + 1 + 1 + 1 + 1, 0, none⟩, 1⟩
def e10DD (h : Nat) : CfD := ⟨[⟨#[97]⟩, ⟨#[98]⟩], some ⟨h + 1 + 1 + 1 + 1 + 1 + 1, 0, none⟩, 2, [⟨#[83]⟩], some ⟨h + 1 + 1 + 1 + 1 + 1 + 1 + 1, 0, none⟩, 1, [⟨[⟨[0], some ⟨h + 1 + 1 + 1 + 1 + 1 + 1 + 1 + 1, 0, none⟩, 1⟩, ⟨[0, 1], some ⟨h + 1 + 1 + 1 + 1 + 1 + 1 + 1 + 1 + 1, 0, none⟩, 2⟩], some ⟨h + 1 + 1 + 1 + 1 + 1 + 1 + 1 + 1 + 1 + 1, 0, none⟩, 2⟩], some ⟨h + 1 + 1 + 1 + 1 + 1 + 1 + 1 + 1 + 1 + 1 + 1, 0, none⟩, 1⟩
set_option maxRecDepth 100000 in
theorem e10_c (w : World) : CfAt (allocs w (e10Os w.heap.size)) (e10CD w.heap.size) := by
 refine ⟨allocs_vs _ w 0 _ _ rfl 2 rfl (e9_mx 2 (by omega)), allocs_vs _ w 1 _ _ rfl 1 rfl (e9_mx 1 (by omega)), allocs_vs _ w 4 _ _ rfl 1 rfl (e9_mx 1 (by omega)), fun r hr => ?_⟩
 have hr : r = ⟨[⟨[0, -1, 1], some ⟨w.heap.size + 1 + 1, 0, none⟩, 3⟩, ⟨[], none, 0⟩], some ⟨w.heap.size + 1 + 1 + 1, 0, none⟩, 2⟩ := by simpa [e10CD] using hr
 subst hr
 refine ⟨allocs_vs _ w 3 _ _ rfl 2 rfl (e9_mx 2 (by omega)), fun d hd => ?_⟩
 have hd : d = ⟨[0, -1, 1], some ⟨w.heap.size + 1 + 1, 0, none⟩, 3⟩ ∨ d = ⟨[], none, 0⟩ := by simpa using hd
 rcases hd with rfl | rfl
 ·exact allocs_vs _ w 2 _ _ rfl 3 rfl (e9_mx 3 (by omega))
 ·exact Vs.nil _
set_option maxRecDepth 100000 in
theorem e10_d (w : World) : CfAt (allocs w (e10Os w.heap.size)) (e10DD w.heap.size) := by
 refine ⟨allocs_vs _ w 6 _ _ rfl 2 rfl (e9_mx 2 (by omega)), allocs_vs _ w 7 _ _ rfl 1 rfl (e9_mx 1 (by omega)), allocs_vs _ w 11 _ _ rfl 1 rfl (e9_mx 1 (by omega)), fun r hr => ?_⟩
 have hr : r = ⟨[⟨[0], some ⟨w.heap.size + 8, 0, none⟩, 1⟩, ⟨[0, 1], some ⟨w.heap.size + 9, 0, none⟩, 2⟩], some ⟨w.heap.size + 10, 0, none⟩, 2⟩ := by
  unfold e10DD at hr
  exact List.mem_singleton.1 hr
 subst hr
 refine ⟨allocs_vs _ w 10 _ _ rfl 2 rfl (e9_mx 2 (by omega)), fun d hd => ?_⟩
 rcases List.mem_cons.1 hd with rfl | hd
 ·exact allocs_vs _ w 8 _ _ rfl 1 rfl (e9_mx 1 (by omega))
 ·rw [List.mem_singleton] at hd
  subst hd
  exact allocs_vs _ w 9 _ _ rfl 2 rfl (e9_mx 2 (by omega))
theorem e10_bc (w : World) : Blk (allocs w (e10Os w.heap.size)) (w.heap.size + 5) 25 [.slice (e10CD w.heap.size).ta 2 2, .slice (e10CD w.heap.size).na 1 1, .slice (e10CD w.heap.size).aa 1 1] := allocs_blk _ w 5 _ _ rfl
theorem e10_bd (w : World) : Blk (allocs w (e10Os w.heap.size)) (w.heap.size + 12) 25 [.slice (e10DD w.heap.size).ta 2 2, .slice (e10DD w.heap.size).na 1 1, .slice (e10DD w.heap.size).aa 1 1] := allocs_blk _ w 12 _ _ rfl
theorem e10_fc (h : Nat) : FitC (e10CD h) := ⟨by simp [e10CD], by simp [e10CD], by simp [e10CD], by simp [e10CD], by
 unfold OkL e10CD
 simp⟩
theorem e10_fd (h : Nat) : FitC (e10DD h) := ⟨by simp [e10DD], by simp [e10DD], by simp [e10DD], by simp [e10DD], by
 unfold OkL e10DD
 simp⟩
theorem e10_pc (h : Nat) : (e10CD h).alts.map IrD.p = e9C := rfl
theorem e10_pd (h : Nat) : (e10DD h).alts.map IrD.p = e10D := rfl
theorem lit_Cl (w : World) : OwnCl (w.alloc (.cells #[.int .i64 0, .int .i64 0, .int .i64 0, .int .i64 1] 93)) 0 (some ⟨w.heap.size, 0, none⟩) 1 [(0, 0, 0, 1)] :=
 ⟨rfl, .inr ⟨w.heap.size, 1, #[.int .i64 0, .int .i64 0, .int .i64 0, .int .i64 1], rfl, Nat.zero_le _, World.alloc_heap_new w _, Nat.le_refl _, by unfold maxLen; omega, rfl, rfl⟩⟩
set_option maxRecDepth 100000 in
set_option maxHeartbeats 16000000 in
theorem live10_any (w : World) : Calls Try.prog 29 #[] w fun e w' => e = .returned (.bool true) ∧ Below w.heap.size w w' := by
 have HL0 := Lib.hid (build_any (e10CD w.heap.size) (allocs w (e10Os w.heap.size)) (e10_c w) (e10_fc _))
 rw [e10_pc] at HL0
 have HL1 : Hid (Calls Try.prog 33 #[(e10CD w.heap.size).v] (allocs w (e10Os w.heap.size)) (BldQ (allocs w (e10Os w.heap.size)) e9C (nulB e9C) 2)) := HL0
 clear HL0
 have Hc := e10_c w
 have Hd := e10_d w
 have Hbc := Lib.hid (e10_bc w)
 have Hbd := Lib.hid (e10_bd w)
 have HwV := Lib.hid (allocs_below (e10Os w.heap.size) w)
 have Hbld := Lib.hid (fun W (hb : Below (allocs w (e10Os w.heap.size)).heap.size (allocs w (e10Os w.heap.size)) W) => build_any (e10DD w.heap.size) W (Hd.grown hb) (e10_fd _))
 have Hcls := Lib.hid (fun W (hb : Below (allocs w (e10Os w.heap.size)).heap.size (allocs w (e10Os w.heap.size)) W) => clashes_any (e10DD w.heap.size) W (Hd.grown hb) (e10_fd _))
 have Hprd := Lib.hid (fun W (hb : Below (allocs w (e10Os w.heap.size)).heap.size (allocs w (e10Os w.heap.size)) W) => predict_any (e10CD w.heap.size) ((0 : Nat) : Int) ((1 : Nat) : Int) W (Hc.grown hb) (e10_fc _) (by decide) (by decide))
 rw [e10_pc] at Hprd
 rw [e10_pd] at Hbld Hcls
 clear Hc Hd
 go_enter Try.func29, Try.ntmps29
 go_wp2_with (fail)
 refine HL1.out.mono ?_
 rintro e w1 h
 obtain ⟨g, rs, rfl, hE, hR, hb⟩ := (h.resolve_left (fun h => h.1 e10C_all)).2
 clear h
 have hE1 : TkA w1 (allocs w (e10Os w.heap.size)).heap.size g 1 rs := hE
 have HE := Lib.hid hE1
 have hR0 := hR 0 (by decide)
 rw [e10C_row] at hR0
 have HR0 := Lib.hid hR0
 have HV1 := Lib.hid hb
 have HQ1 : Hid (Below w1.heap.size w1 w1) := Lib.hid (Below.refl _ w1)
 clear HL1 hE hE1 hR hR0 hb
 obtain ⟨V, hV⟩ : ∃ q, Hid ((allocs w (e10Os w.heap.size)) = q) := ⟨_, Lib.hid rfl⟩
 rw [hV.out] at HV1 Hbc Hbd HwV Hbld Hcls Hprd HE
 have hwV : w.heap.size ≤ V.heap.size := HwV.out.size
 obtain ⟨h, hh⟩ : ∃ q, Hid (w.heap.size = q) := ⟨_, Lib.hid rfl⟩
 rw [hh.out] at Hbc Hbd Hbld Hcls Hprd ⊢
 clear hV
 have hx : Blk w1 (h + 1 + 1 + 1 + 1 + 1 + 1 + 1 + 1 + 1 + 1 + 1 + 1) 25 [.slice (some ⟨h + 1 + 1 + 1 + 1 + 1 + 1, 0, none⟩) 2 2, .slice (some ⟨h + 1 + 1 + 1 + 1 + 1 + 1 + 1, 0, none⟩) 1 1, .slice (some ⟨h + 1 + 1 + 1 + 1 + 1 + 1 + 1 + 1 + 1 + 1 + 1, 0, none⟩) 1 1] := Hbd.out.below HV1.out Hbd.out.lt
 have x0 := hx.cell 0
 have x1 := hx.cell 1
 have x2 := hx.cell 2
 have xl := hx.lt
 simp only [List.getElem?_cons_zero, List.getElem?_cons_succ] at x0 x1 x2
 clear hx
 go_wp2_with (fail)
 clear x0 x1 x2 xl
 refine (Hbld.out w1 HV1.out).mono ?_
 rintro e w2 h9
 obtain ⟨_, rfl, hb⟩ := h9.resolve_right (fun h8 => by have h1 : allCl e10D (nulB e10D) 2 = [] := h8.1; rw [e10D_all] at h1; cases h1)
 clear h9
 have HV2 := Lib.hid (HV1.out.trans (hb.mono HV1.out.size))
 have HQ2 := Lib.hid (HQ1.out.trans (hb.mono HQ1.out.size))
 clear hb
 have hE2 := HE.out.below HQ2.out
 have Hbl := Lib.hid (allocs_below [.cells #[.int .i64 0, .int .i64 1, .int .i64 1] 3, .cells #[.slice (some ⟨w2.heap.size, 0, none⟩) 3 3] 35] w2)
 have Hs : Hid (Calls Try.prog 18 #[.slice (some ⟨g, 0, none⟩) 1 1, .slice (some ⟨w2.heap.size + 1, 0, none⟩) 1 1] (allocs w2 [.cells #[.int .i64 0, .int .i64 1, .int .i64 1] 3, .cells #[.slice (some ⟨w2.heap.size, 0, none⟩) 3 3] 35]) (fun e w' => e = .returned (.bool true) ∧ Below (allocs w2 [.cells #[.int .i64 0, .int .i64 1, .int .i64 1] 3, .cells #[.slice (some ⟨w2.heap.size, 0, none⟩) 3 3] 35]).heap.size (allocs w2 [.cells #[.int .i64 0, .int .i64 1, .int .i64 1] 3, .cells #[.slice (some ⟨w2.heap.size, 0, none⟩) 3 3] 35]) w')) := Lib.hid (by
  have h1 := sameLists9_any (some ⟨g, 0, none⟩) (some ⟨w2.heap.size + 1, 0, none⟩) 1 1 rs [⟨[0, 1, 1], some ⟨w2.heap.size, 0, none⟩, 3⟩] (allocs w2 [.cells #[.int .i64 0, .int .i64 1, .int .i64 1] 3, .cells #[.slice (some ⟨w2.heap.size, 0, none⟩) 3 3] 35]) (hE2.alts.grown Hbl.out) (lit_L1 w2 [0, 1, 1] 3 rfl (by omega))
  have hl1 := HE.out.len
  have e9 : rs.map (fun x => x.l) = [[0, 1, 1]] := by
   match rs, hl1, HR0.out with
   | [r], _, h => simpa [rowL] using h
  rw [e9] at h1
  rw [hl1] at h1
  exact h1)
 clear hE2
 go_wp2_with (fail)
 refine Hs.out.mono ?_
 rintro e w3 ⟨rfl, hb⟩
 have hb3 := Hbl.out.trans (hb.mono Hbl.out.size)
 have HV3 := Lib.hid (HV2.out.trans (hb3.mono HV2.out.size))
 have HQ3 := Lib.hid (HQ2.out.trans (hb3.mono HQ2.out.size))
 clear hb hb3 Hs Hbl
 have hx : Blk w3 (h + 1 + 1 + 1 + 1 + 1 + 1 + 1 + 1 + 1 + 1 + 1 + 1) 25 [.slice (some ⟨h + 1 + 1 + 1 + 1 + 1 + 1, 0, none⟩) 2 2, .slice (some ⟨h + 1 + 1 + 1 + 1 + 1 + 1 + 1, 0, none⟩) 1 1, .slice (some ⟨h + 1 + 1 + 1 + 1 + 1 + 1 + 1 + 1 + 1 + 1 + 1, 0, none⟩) 1 1] := Hbd.out.below HV3.out Hbd.out.lt
 have x0 := hx.cell 0
 have x1 := hx.cell 1
 have x2 := hx.cell 2
 have xl := hx.lt
 simp only [List.getElem?_cons_zero, List.getElem?_cons_succ] at x0 x1 x2
 clear hx
 go_wp2_with (fail)
 clear x0 x1 x2 xl
 refine (Hcls.out w3 HV3.out).mono ?_
 rintro e w4 ⟨ca, cc, rfl, hcl, hb⟩
 have hcl1 : OwnCl w4 w3.heap.size ca cc [(0, 0, 0, 1)] := by
  have := hcl
  rw [show (e10DD h).toks.length = 2 from rfl, e10D_all] at this
  exact this
 have HV4 := Lib.hid (HV3.out.trans (hb.mono HV3.out.size))
 have HQ4 := Lib.hid (HQ3.out.trans (hb.mono HQ3.out.size))
 clear hcl
 have hal4 : Below w4.heap.size w4 (w4.alloc (.cells #[.int .i64 0, .int .i64 0, .int .i64 0, .int .i64 1] 93)) := (Below.refl _ w4).alloc (Nat.le_refl _) _
 have Hs := Lib.hid (sameCl_any [(0, 0, 0, 1)] ca (some ⟨w4.heap.size, 0, none⟩) cc 1 _ _ _ (hcl1.below hal4) (lit_Cl w4))
 have hlen4 : (allCl e10D (nulB e10D) (e10DD h).toks.length).length = 1 := by
  rw [show (e10DD h).toks.length = 2 from rfl, e10D_all]
  rfl
 rw [hlen4]
 have Hs' : Hid (Calls Try.prog 35 #[.slice ca 1 cc, .slice (some ⟨w4.heap.size, 0, none⟩) 1 1] (w4.alloc (.cells #[.int .i64 0, .int .i64 0, .int .i64 0, .int .i64 1] 93)) fun e w' => e = .returned (.bool true) ∧ Below (w4.alloc (.cells #[.int .i64 0, .int .i64 0, .int .i64 0, .int .i64 1] 93)).heap.size (w4.alloc (.cells #[.int .i64 0, .int .i64 0, .int .i64 0, .int .i64 1] 93)) w') := Hs
 have Hal4 := Lib.hid hal4
 clear hb hcl1 hal4 Hs hlen4
 go_wp2_with (fail)
 refine Hs'.out.mono ?_
 rintro e w5 ⟨rfl, hb⟩
 have hb5 := Hal4.out.trans (hb.mono Hal4.out.size)
 have HV5 := Lib.hid (HV4.out.trans (hb5.mono HV4.out.size))
 have HQ5 := Lib.hid (HQ4.out.trans (hb5.mono HQ4.out.size))
 clear hb hb5 Hs' Hal4
 have hx : Blk w5 (h + 1 + 1 + 1 + 1 + 1) 25 [.slice (some ⟨h, 0, none⟩) 2 2, .slice (some ⟨h + 1, 0, none⟩) 1 1, .slice (some ⟨h + 1 + 1 + 1 + 1, 0, none⟩) 1 1] := Hbc.out.below HV5.out Hbc.out.lt
 have x0 := hx.cell 0
 have x1 := hx.cell 1
 have x2 := hx.cell 2
 have xl := hx.lt
 simp only [List.getElem?_cons_zero, List.getElem?_cons_succ] at x0 x1 x2
 clear hx
 go_wp2_with (fail)
 clear x0 x1 x2 xl
 refine (Hprd.out w5 HV5.out).mono ?_
 rintro e w6 ⟨la, lc, l, rfl, hr, ho, hb⟩
 obtain rfl : l = [1, 2] := hr.same e10C_prd (fun _ => Iff.rfl)
 have HV6 := Lib.hid (HV5.out.trans (hb.mono HV5.out.size))
 have HQ6 := Lib.hid (HQ5.out.trans (hb.mono HQ5.out.size))
 have hal6 : Below w6.heap.size w6 (w6.alloc (.cells #[.int .i64 1, .int .i64 2] 3)) := (Below.refl _ w6).alloc (Nat.le_refl _) _
 have Hs := Lib.hid (sameInts8_any la (some ⟨w6.heap.size, 0, none⟩) lc 2 [1, 2] [1, 2] (w6.alloc (.cells #[.int .i64 1, .int .i64 2] 3)) ((OwnKZ.vs ho).grown hal6) (lit_I w6 [1, 2] 2 rfl (by omega)))
 rw [decide_eq_true rfl] at Hs
 have Hal6 := Lib.hid hal6
 clear hr ho hb hal6
 go_wp2_with (fail)
 refine Hs.out.mono ?_
 rintro e w7 ⟨rfl, hb⟩
 have hb7 := Hal6.out.trans (hb.mono Hal6.out.size)
 have HV7 := Lib.hid (HV6.out.trans (hb7.mono HV6.out.size))
 have HQ7 := Lib.hid (HQ6.out.trans (hb7.mono HQ6.out.size))
 have Hfin := Lib.hid (HwV.out.trans (HV7.out.mono (by have := HwV.out.size; omega)))
 clear hb hb7 Hs Hal6
 go_wp2_with (fail)
 exact bodyPost_ret (v := .bool true) (by simp [results, Try.results29, go_sem]; try first | rfl | assumption | omega) rfl ⟨rfl, Hfin.out⟩
end Go.Proofs.Ytldmgifphkpdlaa
namespace Go.Proofs.Ytldmgifphkpdlaa
open Go.RowKit Go.Maps
attribute [local go_sem] Oper.semAt_some
end Go.Proofs.Ytldmgifphkpdlaa
namespace Go.Proofs.Ytldmgifphkpdlaa
open Go.RowKit
theorem mem_lay {l : List Fl} {x f : Fl} : f ∈ layP l x ↔ f ∈ l ∨ f = x := by
 unfold layP
 split
 ·next h =>
  rw [memF_iff] at h
  exact ⟨fun h1 => .inl h1, fun h1 => h1.elim id (fun e => e ▸ h)⟩
 ·rw [List.mem_append, List.mem_singleton]
theorem mem_unkS {ts names : List ByteArray} {o : List Fl} {n : ByteArray} {f : Fl} : f ∈ unkS ts names o n ↔ f ∈ o ∨ (n ∉ names ∧ n ∉ ts ∧ f = (2, n)) := by
 have h1 : (!mem n names && !mem n ts) = true ↔ n ∉ names ∧ n ∉ ts := by
  simp only [Bool.and_eq_true, Bool.not_eq_true', Bool.eq_false_iff]
  exact and_congr (not_congr mem_iff) (not_congr mem_iff)
 unfold unkS
 split
 ·next h => rw [mem_lay]; have := h1.1 h; exact ⟨fun h => h.imp id (fun e => ⟨this.1, this.2, e⟩), fun h => h.imp id (fun e => e.2.2)⟩
 ·next h => exact ⟨fun h => .inl h, fun h2 => h2.elim id (fun e => absurd (h1.2 ⟨e.1, e.2.1⟩) h)⟩
theorem mem_unkA {ts names : List ByteArray} {f : Fl} : ∀ (l : List ByteArray) (o : List Fl), f ∈ unkA ts names l o ↔ f ∈ o ∨ ∃ n ∈ l, n ∉ names ∧ n ∉ ts ∧ f = (2, n)
 | [], o => by simp [unkA]
 | m :: l, o => by
  have h : unkA ts names (m :: l) o = unkA ts names l (unkS ts names o m) := rfl
  rw [h, mem_unkA l, mem_unkS]
  simp only [List.mem_cons, exists_eq_or_imp, or_assoc]
theorem mem_unkAs {ts names : List ByteArray} {f : Fl} : ∀ (al : List (List ByteArray)) (o : List Fl), f ∈ unkAs ts names al o ↔ f ∈ o ∨ ∃ a ∈ al, ∃ n ∈ a, n ∉ names ∧ n ∉ ts ∧ f = (2, n)
 | [], o => by simp [unkAs]
 | m :: l, o => by
  have h : unkAs ts names (m :: l) o = unkAs ts names l (unkA ts names m o) := rfl
  rw [h, mem_unkAs l, mem_unkA]
  simp only [List.mem_cons, exists_eq_or_imp, or_assoc]
theorem mem_unkP {ts names : List ByteArray} {f : Fl} : ∀ (rs : List Rl) (o : List Fl), f ∈ unkP ts names rs o ↔ f ∈ o ∨ ∃ r ∈ rs, ∃ a ∈ r.2, ∃ n ∈ a, n ∉ names ∧ n ∉ ts ∧ f = (2, n)
 | [], o => by simp [unkP]
 | m :: l, o => by
  have h : unkP ts names (m :: l) o = unkP ts names l (unkAs ts names m.2 o) := rfl
  rw [h, mem_unkP l, mem_unkAs]
  simp only [List.mem_cons, exists_eq_or_imp, or_assoc]
theorem mem_restM {kd : Int} {m : ByteArray → Bool} {f : Fl} : ∀ (l : List ByteArray) (o : List Fl), f ∈ restM kd m l o ↔ f ∈ o ∨ ∃ n ∈ l, m n = false ∧ f = (kd, n)
 | [], o => by simp [restM]
 | n :: l, o => by
  have h : restM kd m (n :: l) o = restM kd m l (if (!m n) = true then layP o (kd, n) else o) := rfl
  rw [h, mem_restM l]
  simp only [List.mem_cons, exists_eq_or_imp]
  cases hm : m n
  ·rw [if_pos (by rfl), mem_lay, or_assoc]
   simp
  ·rw [if_neg (by decide)]
   simp
theorem mem_FLW {rs : List RlD} {ts : List ByteArray} {f : Fl} : f ∈ FLW rs ts ↔ f ∈ dblN ts (rs.map RlD.n) rs.length ∨ (∃ r ∈ grP rs, ∃ a ∈ r.2, ∃ n ∈ a, n ∉ rs.map RlD.n ∧ n ∉ ts ∧ f = (2, n)) ∨ (∃ n ∈ rs.map RlD.n, fertM rs ts n = false ∧ f = (3, n)) ∨ ∃ n ∈ rs.map RlD.n, nearM rs n = false ∧ f = (4, n) := by
 unfold FLW
 rw [mem_restM, mem_restM, mem_unkP]
 simp only [or_assoc]
end Go.Proofs.Ytldmgifphkpdlaa
namespace Go.Proofs.Ytldmgifphkpdlaa
open Go.RowKit
theorem backR_mem10 {ts ns : List ByteArray} : ∀ {l : List ByteArray} {al : List (List (List Int))}, l.length = al.length → ∀ {r : Rl}, r ∈ backR ts ns l al → ∃ k, ∃ h : k < l.length, r = (l[k], (al.getD k []).map (fun x => x.map (nmP ts ns)))
 | [], [], _, r, hr => by cases hr
 | [], _ :: _, h, _, _ => by cases h
 | _ :: _, [], h, _, _ => by cases h
 | n :: l, a :: al, h, r, hr => by
  rcases List.mem_cons.1 hr with rfl | hr
  ·exact ⟨0, by simp, rfl⟩
  ·obtain ⟨k, hk, rfl⟩ := backR_mem10 (l := l) (al := al) (by simpa using h) hr
   exact ⟨k + 1, by simpa using hk, rfl⟩
/-- What a list has, if each of its numbers comes to something: it may be empty, or something stands first. -/
theorem lead_some {al : List (List (List Int))} : ∀ {a : List Int}, (∀ x ∈ a, x < 0 → nulB al (ruL x) = true ∨ ∃ t, TokP al (nulB al) [x] t) → emp (nulB al) a = true ∨ ∃ t, TokP al (nulB al) (ahd (nulB al) a) t
 | [], _ => .inl rfl
 | x :: s, h => by
  by_cases hx : (decide (x < 0) && nulB al (ruL x)) = true
  ·rcases lead_some (a := s) (fun y hy => h y (List.mem_cons_of_mem _ hy)) with h1 | ⟨t, h1⟩
   ·exact .inl (by rw [emp_cons, hx, h1]; rfl)
   ·refine .inr ⟨t, ?_⟩
    unfold ahd
    rw [if_pos hx]
    obtain ⟨y, hy, h2⟩ := tok_iff.1 h1
    exact tok_iff.2 ⟨y, List.mem_cons_of_mem _ hy, h2⟩
  ·refine .inr ?_
   unfold ahd
   rw [if_neg hx]
   by_cases h0 : x < 0
   ·rcases h x (by simp) h0 with h1 | h1
    ·rw [decide_eq_true h0, h1] at hx
     exact absurd rfl hx
    ·exact h1
   ·exact ⟨x, tok_self (by omega)⟩
theorem der_some {al : List (List (List Int))} {r : Nat} {m : Int} (h : Der al r m) : nulB al r = true ∨ ∃ t, TokP al (nulB al) [-1 - (r : Int)] t := by
 induction h with
 | @by_ r a W ha hk ih =>
  have hr : r < al.length := by
   refine Classical.byContradiction fun hn => ?_
   rw [List.getD_eq_getElem?_getD, List.getElem?_eq_none (by omega)] at ha
   cases ha
  rcases lead_some (a := a) (fun x hx h0 => by
   have := ih x hx h0
   rwa [of_ruL h0] at this) with h1 | ⟨t, h1⟩
  ·exact .inl ((nul_iff hr).2 ⟨a, ha, h1⟩)
  ·exact .inr ⟨t, tok_rule ha h1⟩
/-- What a grammar that may be has, in its own words. -/
structure MayG (ts ns : List ByteArray) (al : List (List (List Int))) : Prop where
 len : ns.length = al.length
 ok : ∀ r, ∀ a ∈ al.getD r [], ∀ x ∈ a, -(ns.length : Int) ≤ x ∧ x < (ts.length : Int)
 out : ∀ i (h : i < ns.length), ns[i] ∉ ts
 inj : ∀ i j (hi : i < ns.length) (hj : j < ns.length), ns[i] = ns[j] → i = j
 fert : ∀ n ∈ ns, Fert (backR ts ns ns al) ts n
 near : ∀ n ∈ ns, ∃ h : 0 < ns.length, Lead (backR ts ns ns al) ns[0] n
theorem may_of {d : CfD} (h : validE d.p = 0) : MayG d.toks d.names (d.alts.map IrD.p) := by
 have h0 := h
 unfold validE at h
 split at h
 ·next h1 =>
  split at h
  ·next h2 =>
   have hb := h1
   unfold backE at h1
   split at h1
   ·next h3 =>
    split at h1
    ·next h4 =>
     have e1 : d.p.alts = d.alts.map IrD.p := rfl
     have e2 : d.p.names = d.names := rfl
     have e3 : d.p.toks = d.toks := rfl
     have e4 : backG d.p = backR d.toks d.names d.names (d.alts.map IrD.p) := rfl
     rw [e1, e2] at h3
     rw [e3, e4] at h2
     have hnm : (can (backR d.toks d.names d.names (d.alts.map IrD.p))).map RlD.n = d.names := by
      rw [names_grP, grP_can, backR_fst _ _ _ _ h3]
     obtain ⟨a1, a2⟩ := num_apart2 h2
     rw [hnm] at a2
     have hfl : FLW (can (backR d.toks d.names d.names (d.alts.map IrD.p))) d.toks = [] := by
      unfold numE at h2
      split at h2
      ·split at h2
       ·split at h2
        ·next h9 => exact List.length_eq_zero_iff.1 h9
        ·cases h2
       ·next h9 => exact absurd h2 h9
      ·next h9 => exact absurd h2 h9
     have hno : ∀ f, f ∉ FLW (can (backR d.toks d.names d.names (d.alts.map IrD.p))) d.toks := fun f hf => by rw [hfl] at hf; cases hf
     refine ⟨h3, fun r a ha x hx => ?_, fun i hi => (a2 i hi).1, fun i j hi hj e => apart_inj (fun i hi => (a2 i hi).2) hi hj e, fun n hn => ?_, fun n hn => ?_⟩
     ·by_cases hr : r < (d.alts.map IrD.p).length
      ·have hm : (d.alts.map IrD.p)[r] ∈ d.p.alts := List.getElem_mem hr
       rw [List.getD_eq_getElem?_getD, List.getElem?_eq_getElem hr] at ha
       have ha : a ∈ (d.alts.map IrD.p)[r] := ha
       unfold numsB at h4
       have := List.all_eq_true.1 (List.all_eq_true.1 (List.all_eq_true.1 h4 _ hm) a ha) x hx
       exact okN_iff.1 this
      ·rw [List.getD_eq_getElem?_getD, List.getElem?_eq_none (by omega)] at ha
       cases ha
     ·have h5 : fertM (can (backR d.toks d.names d.names (d.alts.map IrD.p))) d.toks n = true := by
       cases e : fertM (can (backR d.toks d.names d.names (d.alts.map IrD.p))) d.toks n
       ·exact absurd (mem_FLW.2 (.inr (.inr (.inl ⟨n, by rw [hnm]; exact hn, e, rfl⟩)))) (hno _)
       ·rfl
      have h6 := (fertM_iff _ _ _).1 h5
      rwa [grP_can] at h6
     ·have h5 : nearM (can (backR d.toks d.names d.names (d.alts.map IrD.p))) n = true := by
       cases e : nearM (can (backR d.toks d.names d.names (d.alts.map IrD.p))) n
       ·exact absurd (mem_FLW.2 (.inr (.inr (.inr ⟨n, by rw [hnm]; exact hn, e, rfl⟩)))) (hno _)
       ·rfl
      obtain ⟨q, hq, hl⟩ := (nearM_iff _ _).1 h5
      rw [grP_can] at hl
      have hpos : 0 < d.names.length := List.length_pos_of_mem hn
      refine ⟨hpos, ?_⟩
      have e9 : ((can (backR d.toks d.names d.names (d.alts.map IrD.p))).map RlD.n).head? = some q.n := by rw [List.head?_map, hq]; rfl
      rw [hnm, List.head?_eq_getElem?, List.getElem?_eq_getElem hpos] at e9
      have e10 : d.names[0] = q.n := by simpa using e9
      rw [e10]
      exact hl
    ·cases h1
   ·cases h1
  ·cases h
 ·cases h
theorem nmP_rule {ts ns : List ByteArray} {x : Int} (h0 : x < 0) (h : ruL x < ns.length) : nmP ts ns x = ns[ruL x] := by
 unfold nmP
 rw [if_pos h0]
 show ns.getD (ruL x) _ = _
 rw [List.getD_eq_getElem?_getD, List.getElem?_eq_getElem h]
 rfl
theorem MayG.der {ts ns : List ByteArray} {al : List (List (List Int))} (h : MayG ts ns al) (k : Nat) (hk : k < ns.length) : ∃ m, Der al k m := by
 classical
 have key : ∀ s, Fert (backR ts ns ns al) ts s → ∀ k (hk : k < ns.length), s = ns[k] → ∃ m, Der al k m := by
  intro s hs
  induction hs with
  | tok ht => intro k hk e; rw [e] at ht; exact absurd ht (h.out k hk)
  | @rule r a hr ha _ ih =>
   intro k hk e
   obtain ⟨j, hj, rfl⟩ := backR_mem10 h.len hr
   dsimp only at e ha
   have := h.inj j k hj hk e
   subst this
   obtain ⟨a0, ha0, rfl⟩ := List.mem_map.1 ha
   refine ⟨_, Der.by_ (fun q => if hq : ∃ m, Der al q m then Classical.choose hq else 0) ha0 (fun x hx h0 => ?_)⟩
   have h1 := h.ok j a0 ha0 x hx
   have h2 : ruL x < ns.length := by unfold ruL; omega
   have h3 := ih (nmP ts ns x) (List.mem_map.2 ⟨x, hx, rfl⟩) (ruL x) h2 (nmP_rule h0 h2)
   rw [dif_pos h3]
   exact Classical.choose_spec h3
 exact key _ (h.fert _ (List.getElem_mem hk)) k hk rfl
/-- A rule stands in an alternative of another one. -/
def OccP (al : List (List (List Int))) (r q : Nat) : Prop := ∃ a ∈ al.getD r [], (-1 - (q : Int)) ∈ a
theorem MayG.reach {ts ns : List ByteArray} {al : List (List (List Int))} (h : MayG ts ns al) (k : Nat) (hk : k < ns.length) : Rchd [0] (OccP al) k := by
 obtain ⟨hpos, hl⟩ := h.near _ (List.getElem_mem hk)
 have key : ∀ s, Lead (backR ts ns ns al) ns[0] s → ∀ k (hk : k < ns.length), s = ns[k] → Rchd [0] (OccP al) k := by
  intro s hs
  induction hs with
  | base => intro k hk e; have := h.inj 0 k hpos hk e; subst this; exact .base (by simp)
  | @step r a n _ hr ha hn ih =>
   intro k hk e
   obtain ⟨j, hj, rfl⟩ := backR_mem10 h.len hr
   dsimp only at ha ih
   obtain ⟨a0, ha0, rfl⟩ := List.mem_map.1 ha
   obtain ⟨x, hx, rfl⟩ := List.mem_map.1 hn
   have h1 := h.ok j a0 ha0 x hx
   have h2 := ih j hj rfl
   by_cases h0 : x < 0
   ·have h3 : ruL x < ns.length := by unfold ruL; omega
    rw [nmP_rule h0 h3] at e
    have := h.inj _ k h3 hk e
    subst this
    exact h2.step ⟨a0, ha0, by rw [of_ruL h0]; exact hx⟩
   ·exfalso
    unfold nmP at e
    rw [if_neg h0, List.getD_eq_getElem?_getD, List.getElem?_eq_getElem (show x.toNat < ts.length by omega)] at e
    have h4 : ts[x.toNat]'(by omega) = ns[k] := e
    exact h.out k hk (by rw [← h4]; exact List.getElem_mem _)
 exact key _ hl k hk rfl
theorem MayG.rest {ts ns : List ByteArray} {al : List (List (List Int))} (h : MayG ts ns al) {r : Nat} {a b : List Int} (ha : a ∈ al.getD r []) (hb : ∀ x ∈ b, x ∈ a) : emp (nulB al) b = true ∨ ∃ t, TokP al (nulB al) (ahd (nulB al) b) t :=
 lead_some (fun x hx h0 => by
  have h1 := h.ok r a ha x (hb x hx)
  obtain ⟨m, hm⟩ := h.der (ruL x) (by unfold ruL; omega)
  have := der_some hm
  rwa [of_ruL h0] at this)
theorem MayG.fol {ts ns : List ByteArray} {al : List (List (List Int))} (h : MayG ts ns al) (T k : Nat) (hk : k < ns.length) : ∃ t, FolP al (nulB al) T k t := by
 have key : ∀ k, Rchd [0] (OccP al) k → ∃ t, FolP al (nulB al) T k t := by
  intro k hr
  induction hr with
  | base h0 => rw [List.mem_singleton] at h0; subst h0; exact ⟨_, fol_end⟩
  | @step r q _ hs ih =>
   obtain ⟨a, ha, hq⟩ := hs
   have hrl : r < al.length := by
    refine Classical.byContradiction fun hn => ?_
    rw [List.getD_eq_getElem?_getD, List.getElem?_eq_none (by omega)] at ha
    cases ha
   obtain ⟨i, hi, e⟩ := List.mem_iff_getElem.1 hq
   have hi2 : a[i]? = some (-1 - (q : Int)) := by rw [List.getElem?_eq_getElem hi, e]
   rcases h.rest ha (b := a.drop (i + 1)) (fun x hx => List.mem_of_mem_drop hx) with h1 | ⟨t, h1⟩
   ·obtain ⟨t, ht⟩ := ih
    exact ⟨t, fol_last ⟨hrl, a, ha, i, hi2, h1⟩ ht⟩
   ·exact ⟨t, fol_beh hrl ha hi2 h1⟩
 exact key k (h.reach k hk)
theorem few10_may {d : CfD} (h : few10 d = true) : MayG d.toks d.names (d.alts.map IrD.p) := by
 unfold few10 at h
 rw [Bool.and_eq_true, decide_eq_true_eq, decide_eq_true_eq] at h
 exact may_of h.2
end Go.Proofs.Ytldmgifphkpdlaa
namespace Go.Proofs.Ytldmgifphkpdlaa
open Go.RowKit Go.Maps
attribute [local go_sem] Oper.semAt_some
theorem filt_one {p : Nat → Bool} {n : Nat} : ((List.range n).filter p).length ≤ 1 ↔ ∀ i k, i < k → k < n → ¬ (p i = true ∧ p k = true) := by
 constructor
 ·rintro h i k hik hk ⟨h1, h2⟩
  have hi : i ∈ (List.range n).filter p := List.mem_filter.2 ⟨List.mem_range.2 (by omega), h1⟩
  have hk : k ∈ (List.range n).filter p := List.mem_filter.2 ⟨List.mem_range.2 hk, h2⟩
  generalize (List.range n).filter p = l at h hi hk
  match l, h with
  | [], _ => cases hi
  | [a], _ =>
   rw [List.mem_singleton] at hi hk
   omega
  | _ :: _ :: _, h => simp at h
 ·intro h
  have hp : ((List.range n).filter p).Pairwise (· < ·) := List.pairwise_lt_range.filter _
  have hm : ∀ x ∈ (List.range n).filter p, x < n ∧ p x = true := fun x hx => by
   obtain ⟨h1, h2⟩ := List.mem_filter.1 hx
   exact ⟨List.mem_range.1 h1, h2⟩
  generalize (List.range n).filter p = l at hp hm
  match l, hp, hm with
  | [], _, _ => simp
  | [_], _, _ => simp
  | a :: b :: l, hp, hm =>
   have h1 := (List.pairwise_cons.1 hp).1 b (by simp)
   exact absurd ⟨(hm a (by simp)).2, (hm b (by simp)).2⟩ (h a b h1 (hm b (by simp)).1)
/-- Two alternatives of a rule are taken at one token. -/
noncomputable def BdB (al : List (List (List Int))) (f : Nat → Bool) (T r i k : Nat) : Bool := by
 classical exact decide (∃ t : Nat, t < T + 1 ∧ takB al f T r (t : Int) i = true ∧ takB al f T r (t : Int) k = true)
theorem bd_iff {al : List (List (List Int))} {f : Nat → Bool} {T r i k : Nat} : BdB al f T r i k = true ↔ ∃ t : Nat, t < T + 1 ∧ takB al f T r (t : Int) i = true ∧ takB al f T r (t : Int) k = true := by unfold BdB; simp
theorem cl_bd {al : List (List (List Int))} {f : Nat → Bool} {T : Nat} : allCl al f T = [] ↔ ∀ r i k, i < k → k < (al.getD r []).length → r < al.length → BdB al f T r i k = false := by
 unfold allCl
 rw [clS_nil]
 constructor
 ·intro h r i k hik hk hr
  cases e : BdB al f T r i k
  ·rfl
  ·obtain ⟨t, ht, h1, h2⟩ := bd_iff.1 e
   exact absurd ⟨h1, h2⟩ (filt_one.1 (h r hr t ht) i k hik hk)
 ·intro h r hr t ht
  rw [filt_one]
  rintro i k hik hk ⟨h1, h2⟩
  have := h r i k hik hk hr
  rw [bd_iff.2 ⟨t, ht, h1, h2⟩] at this
  cases this
/-- Two lists have a number in common. -/
def comB (l m : List Int) : Bool := l.any (fun n => decide (n ∈ m))
theorem com_iff {l m : List Int} : comB l m = true ↔ ∃ n, n ∈ l ∧ n ∈ m := by unfold comB; simp
theorem bd_is (d : CfD) (hw : few10 d = true) {r i k : Nat} (hr : r < d.alts.length) {x y : List Int} (hx : ((d.alts.map IrD.p).getD r [])[i]? = some x) (hy : ((d.alts.map IrD.p).getD r [])[k]? = some y) {a b c : List Int} (ha : Ris a (TokP (d.alts.map IrD.p) (nulB (d.alts.map IrD.p)) (ahd (nulB (d.alts.map IrD.p)) x))) (hb : Ris b (TokP (d.alts.map IrD.p) (nulB (d.alts.map IrD.p)) (ahd (nulB (d.alts.map IrD.p)) y))) (hc : Ris c (FolP (d.alts.map IrD.p) (nulB (d.alts.map IrD.p)) d.toks.length r)) :
 BdB (d.alts.map IrD.p) (nulB (d.alts.map IrD.p)) d.toks.length r i k = (comB a b || (emp (nulB (d.alts.map IrD.p)) x && emp (nulB (d.alts.map IrD.p)) y) || (emp (nulB (d.alts.map IrD.p)) x && comB b c) || (emp (nulB (d.alts.map IrD.p)) y && comB a c)) := by
 have hf := few10_fit hw
 have hM := few10_may hw
 have hpl : (d.alts.map IrD.p).length = d.alts.length := List.length_map _
 have hok : ∀ {j : Nat} {z : List Int}, ((d.alts.map IrD.p).getD r [])[j]? = some z → OkL d.toks.length d.alts.length z := fun {j z} h => by
  rw [List.getD_eq_getElem?_getD, List.getElem?_map, List.getElem?_eq_getElem hr] at h
  change ((d.alts[r]).ds.map (fun x => x.l))[j]? = some z at h
  rw [List.getElem?_map, Option.map_eq_some_iff] at h
  obtain ⟨q, hq, rfl⟩ := h
  exact (hf.l _ (List.getElem_mem hr) q (List.mem_of_getElem? hq)).2
 have hle : ∀ t, TakP (d.alts.map IrD.p) (nulB (d.alts.map IrD.p)) d.toks.length r x t → 0 ≤ t ∧ t ≤ d.toks.length := fun t h => tak_le hf (hok hx) h
 have hbd : BdB (d.alts.map IrD.p) (nulB (d.alts.map IrD.p)) d.toks.length r i k = true ↔ ∃ t, TakP (d.alts.map IrD.p) (nulB (d.alts.map IrD.p)) d.toks.length r x t ∧ TakP (d.alts.map IrD.p) (nulB (d.alts.map IrD.p)) d.toks.length r y t := by
  rw [bd_iff]
  constructor
  ·rintro ⟨t, _, h1, h2⟩
   rw [takB_at hx] at h1
   rw [takB_at hy] at h2
   exact ⟨t, h1, h2⟩
  ·rintro ⟨t, h1, h2⟩
   obtain ⟨h3, h4⟩ := hle t h1
   refine ⟨t.toNat, by omega, ?_, ?_⟩
   ·rw [takB_at hx, show (t.toNat : Int) = t by omega]; exact h1
   ·rw [takB_at hy, show (t.toNat : Int) = t by omega]; exact h2
 obtain ⟨u, hu⟩ := hM.fol d.toks.length r (by rw [hM.len, hpl]; exact hr)
 rw [Bool.eq_iff_iff, hbd]
 simp only [Bool.or_eq_true, Bool.and_eq_true, com_iff]
 constructor
 ·rintro ⟨t, h1, h2⟩
  rcases h1 with h1 | ⟨e1, h1⟩ <;> rcases h2 with h2 | ⟨e2, h2⟩
  ·exact .inl (.inl (.inl ⟨t, (ha.mem t).2 h1, (hb.mem t).2 h2⟩))
  ·exact .inr ⟨e2, t, (ha.mem t).2 h1, (hc.mem t).2 h2⟩
  ·exact .inl (.inr ⟨e1, t, (hb.mem t).2 h2, (hc.mem t).2 h1⟩)
  ·exact .inl (.inl (.inr ⟨e1, e2⟩))
 ·rintro (((⟨t, h1, h2⟩ | ⟨e1, e2⟩) | ⟨e1, t, h1, h2⟩) | ⟨e2, t, h1, h2⟩)
  ·exact ⟨t, .inl ((ha.mem t).1 h1), .inl ((hb.mem t).1 h2)⟩
  ·exact ⟨u, .inr ⟨e1, hu⟩, .inr ⟨e2, hu⟩⟩
  ·exact ⟨t, .inr ⟨e1, (hc.mem t).1 h2⟩, .inl ((hb.mem t).1 h1)⟩
  ·exact ⟨t, .inl ((ha.mem t).1 h1), .inr ⟨e2, (hc.mem t).1 h2⟩⟩
/-- How far the pairs have been looked at. -/
def GdK (Bd : Nat → Nat → Nat → Bool) (ns : Nat → Nat) (g : Bool) (r i k : Nat) : Prop := g = true ↔ ∀ r' i' k', i' < k' → k' < ns r' → (r' < r ∨ (r' = r ∧ (i' < i ∨ (i' = i ∧ k' < k)))) → Bd r' i' k' = false
theorem gd_start (Bd : Nat → Nat → Nat → Bool) (ns : Nat → Nat) : GdK Bd ns true 0 0 0 := by
 unfold GdK
 simp only [true_iff]
 intro r' i' k' _ _ h
 omega
theorem gd_to {Bd : Nat → Nat → Nat → Bool} {ns : Nat → Nat} {g : Bool} {r i k R I K : Nat} (h : GdK Bd ns g r i k) (he : ∀ r' i' k', i' < k' → k' < ns r' → ((r' < R ∨ (r' = R ∧ (i' < I ∨ (i' = I ∧ k' < K)))) ↔ (r' < r ∨ (r' = r ∧ (i' < i ∨ (i' = i ∧ k' < k)))))) : GdK Bd ns g R I K := by
 unfold GdK at h ⊢
 rw [h]
 constructor
 ·exact fun h1 r' i' k' h2 h3 h4 => h1 r' i' k' h2 h3 ((he r' i' k' h2 h3).1 h4)
 ·exact fun h1 r' i' k' h2 h3 h4 => h1 r' i' k' h2 h3 ((he r' i' k' h2 h3).2 h4)
theorem gd_skip {Bd : Nat → Nat → Nat → Bool} {ns : Nat → Nat} {g : Bool} {r i k : Nat} (h : GdK Bd ns g r i k) (hk : k ≤ i) : GdK Bd ns g r i (k + 1) := gd_to h (fun r' i' k' h1 h2 => by omega)
theorem gd_row {Bd : Nat → Nat → Nat → Bool} {ns : Nat → Nat} {g : Bool} {r i : Nat} (h : GdK Bd ns g r i (ns r)) : GdK Bd ns g r (i + 1) 0 := gd_to h (fun r' i' k' h1 h2 => by
 by_cases e : r' = r
 ·subst e; omega
 ·omega)
theorem gd_rule {Bd : Nat → Nat → Nat → Bool} {ns : Nat → Nat} {g : Bool} {r : Nat} (h : GdK Bd ns g r (ns r) 0) : GdK Bd ns g (r + 1) 0 0 := gd_to h (fun r' i' k' h1 h2 => by
 by_cases e : r' = r
 ·subst e; omega
 ·omega)
theorem gd_good {Bd : Nat → Nat → Nat → Bool} {ns : Nat → Nat} {g : Bool} {r i k : Nat} (h : GdK Bd ns g r i k) (hb : Bd r i k = false) : GdK Bd ns g r i (k + 1) := by
 unfold GdK at h ⊢
 rw [h]
 constructor
 ·intro h1 r' i' k' h2 h3 h4
  by_cases e : r' = r ∧ i' = i ∧ k' = k
  ·obtain ⟨rfl, rfl, rfl⟩ := e; exact hb
  ·exact h1 r' i' k' h2 h3 (by omega)
 ·exact fun h1 r' i' k' h2 h3 h4 => h1 r' i' k' h2 h3 (by omega)
theorem gd_bad {Bd : Nat → Nat → Nat → Bool} {ns : Nat → Nat} {r i k : Nat} (hik : i < k) (hk : k < ns r) (hb : Bd r i k = true) : GdK Bd ns false r i (k + 1) := by
 unfold GdK
 refine ⟨fun h => (by cases h), fun h => ?_⟩
 have := h r i k hik hk (.inr ⟨rfl, .inr ⟨rfl, by omega⟩⟩)
 rw [hb] at this
 cases this
theorem gd_end {al : List (List (List Int))} {f : Nat → Bool} {T : Nat} {g : Bool} (h : GdK (BdB al f T) (fun r => (al.getD r []).length) g al.length 0 0) : g = true ↔ allCl al f T = [] := by
 unfold GdK at h
 rw [h, cl_bd]
 constructor
 ·exact fun h1 r i k h2 h3 h4 => h1 r i k h2 h3 (.inl h4)
 ·exact fun h1 r i k h2 h3 h4 => h1 r i k h2 h3 (by omega)
set_option maxRecDepth 100000 in
set_option maxHeartbeats 16000000 in
theorem both_any (l m : List Int) (a b : Option Addr) (ac bc : Nat) (w : World) (hl : Ints w a ac l) (hm : Ints w b bc m) :
 Calls Try.prog 38 #[.slice a l.length ac, .slice b m.length bc] w fun e w' => e = .returned (.bool (comB l m)) ∧ w' = w := by
 have hlm : l.length ≤ ac ∧ ac ≤ 9223372036854775807 := ⟨by have := hl.le; rw [List.length_map] at this; exact this, hl.max⟩
 have hmm : m.length ≤ bc ∧ bc ≤ 9223372036854775807 := ⟨by have := hm.le; rw [List.length_map] at this; exact this, hm.max⟩
 have Hin := Lib.hid (fun v => in9_any m b bc v w hm)
 obtain ⟨L, HL⟩ : ∃ L, Hid (l.length = L) := ⟨_, Lib.hid rfl⟩
 obtain ⟨M, HM⟩ : ∃ L, Hid (m.length = L) := ⟨_, Lib.hid rfl⟩
 rw [HL.out] at hlm ⊢
 rw [HM.out] at hmm Hin ⊢
 obtain ⟨B, HB⟩ : ∃ B, Hid (comB l m = B) := ⟨_, Lib.hid rfl⟩
 rw [HB.out]
 have Hl := Lib.hid hl
 clear hl hm
 go_enter Try.func38, Try.ntmps38
 go_wp2_with (fail)
 go_loopw [9] (fun i wr => ∃ (k : Nat), k ≤ L ∧ i = .int .i64 k ∧ Hid (B = comB (l.drop k) m) ∧ wr = w) (fun i _ => L - (RowKit.intOf i).toNat)
 case atStart => exact ⟨0, by omega, rfl, Lib.hid HB.out.symm, rfl⟩
 case round =>
  obtain ⟨k, hk, rfl, HR, hwr⟩ := hrel
  subst hwr
  by_cases hlt : k < L
  ·have hkI : (k : Int) < (L : Int) := by omega
   have hkI0 : (0 : Int) ≤ (k : Int) := by omega
   have hkl : k < l.length := by rw [HL.out]; exact hlt
   obtain ⟨p, off, rfl⟩ := Hl.out.at_ k (by rw [List.length_map]; exact hkl)
   have c0 := Hl.out.cell p off rfl k (by rw [List.length_map]; exact hkl)
   rw [List.getElem_map] at c0
   have hbl := World.block_lt_of_cell? _ _ c0
   have hdr : Hid (l.drop k = l[k] :: l.drop (k + 1)) := Lib.hid (List.drop_eq_getElem_cons hkl)
   obtain ⟨u, hu⟩ : ∃ u, Hid (l[k] = u) := ⟨_, Lib.hid rfl⟩
   rw [hu.out] at c0 hdr
   have Hi := Lib.hid (Hin.out u)
   by_cases he : u ∈ m
   ·have HT : Hid (B = true) := Lib.hid (by rw [HR.out, hdr.out]; simp [comB, he])
    rw [decide_eq_true he] at Hi
    go_wp2_with (fail)
    refine Hi.out.mono ?_
    rintro e7 w7 ⟨rfl, rfl⟩
    go_wp2_with (fail)
    exact bodyPost_ret (v := .bool true) (by simp [results, Try.results38, go_sem]; try first | rfl | assumption | omega) rfl ⟨by rw [HT.out], rfl⟩
   ·have HN : Hid (B = comB (l.drop (k + 1)) m) := Lib.hid (by
     rw [HR.out, hdr.out]
     simp [comB, he])
    rw [decide_eq_false he] at Hi
    go_wp2_with (fail)
    refine Hi.out.mono ?_
    rintro e7 w7 ⟨rfl, rfl⟩
    go_wp2_with (fail)
    exact ⟨⟨k + 1, by omega, by go_num, HN, by first | rfl | trivial⟩, by simp [RowKit.intOf]; omega⟩
  ·have hke : k = L := by omega
   have hkI : ¬ (k : Int) < (L : Int) := by omega
   have HK : Hid (B = false) := Lib.hid (by rw [HR.out, List.drop_eq_nil_of_le (by rw [HL.out]; omega)]; simp [comB])
   clear hke
   go_wp2_with (fail)
   exact bodyPost_ret (v := .bool false) (by simp [results, Try.results38, go_sem]; try first | rfl | assumption | omega) rfl ⟨by rw [HK.out], rfl⟩
end Go.Proofs.Ytldmgifphkpdlaa
