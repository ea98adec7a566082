/- The row CheckNumbers in its second form: for every grammar and tokens whose reading is of bulk at most 1048576: the law answers true and changes nothing that was there. -/
/- Texts joined: Kf PNb. -/
import Derived.Test.YteepcedokbjpdaaJAs
set_option linter.unusedVariables false
set_option linter.unusedSimpArgs false
namespace Go.Proofs.Yteepcedokbjpdaa
open Go.RowKit Go.Maps

attribute [local go_sem] Oper.semAt_some

set_option maxRecDepth 100000 in
set_option maxHeartbeats 4000000 in
theorem lawNumbers_any (rs : List RlD) (a : Option Addr) (cap : Nat) (ts : List ByteArray) (ta : Option Addr) (tc : Nat) (w : World) (hl : Rls w a cap rs) (ht : Nms w ta tc ts) (hf : FitG rs ts) (hfew : rs.length + ts.length + szR rs ≤ 1000000000000) :
    Calls Try.prog 4 #[.agg #[.slice a rs.length cap], .slice ta ts.length tc] w fun e w' => e = .returned (.bool true) ∧ Below w.heap.size w w' := by
  have hlm : rs.length ≤ cap ∧ cap ≤ 9223372036854775807 := ⟨hl.le, hl.max⟩
  have htm : ts.length ≤ tc ∧ tc ≤ 9223372036854775807 := ⟨by have := ht.le; rwa [List.length_map] at this, ht.max⟩
  have hA0 := Blk.new w 24 #[.slice a rs.length cap]
  have hb0 : Below w.heap.size w (w.alloc (.cells #[.slice a rs.length cap] 24)) := (Below.refl _ w).alloc (Nat.le_refl _) _
  have Hbig := Lib.hid (fun W (hb : Below w.heap.size w W) => big8_any rs a cap ts ta tc W (hl.grown hb) (ht.grown hb) hfew)
  have Hf1 := Lib.hid (fun (hs : rs.length + ts.length + szR rs ≤ 1000) W (hb : Below w.heap.size w W) => number_any rs a cap ts ta tc W (hl.grown hb) (ht.grown hb) hf hs)
  have Hf2 := Lib.hid (fun (hs : rs.length + ts.length + szR rs ≤ 1000) W (hb : Below w.heap.size w W) => refNumber_any rs a cap ts ta tc W (hl.grown hb) (ht.grown hb) hs)
  obtain ⟨Z, hZ⟩ : ∃ q, Hid (decide (600 < rs.length + ts.length + szR rs) = q) := ⟨_, Lib.hid rfl⟩
  have hZs : Hid (Z = false → rs.length + ts.length + szR rs ≤ 1000) := Lib.hid (fun h => by
    have h1 := hZ.out.trans h
    rw [decide_eq_false_iff_not] at h1
    omega)
  obtain ⟨NE, hNE⟩ : ∃ q, Hid (numE rs ts = q) := ⟨_, Lib.hid rfl⟩
  obtain ⟨C, hC⟩ : ∃ q, Hid (numC rs ts = q) := ⟨_, Lib.hid rfl⟩
  rw [hZ.out] at Hbig
  rw [hNE.out, hC.out] at Hf1 Hf2
  have Hg1 := Lib.hid (fun (h : Z = false) => Hf1.out (hZs.out h))
  have Hg2 := Lib.hid (fun (h : Z = false) => Hf2.out (hZs.out h))
  clear Hf1 Hf2 hZs hZ hC hNE
  obtain ⟨L, HL⟩ : ∃ q, Hid (rs.length = q) := ⟨_, Lib.hid rfl⟩
  obtain ⟨M, HM⟩ : ∃ q, Hid (ts.length = q) := ⟨_, Lib.hid rfl⟩
  rw [HL.out] at hlm hA0 hb0 Hbig Hg1 Hg2 ⊢
  rw [HM.out] at htm Hbig Hg1 Hg2 ⊢
  have Hbig' : Hid (∀ W, Below w.heap.size w W → Calls Try.prog 10 #[.agg #[.slice a L cap], .slice ta M tc] W fun r w' => r = .returned (.bool Z) ∧ Below W.heap.size W w') := Hbig
  have Hg1' : Hid (Z = false → ∀ W, Below w.heap.size w W → Calls Try.prog 14 #[.agg #[.slice a L cap], .slice ta M tc] W (NumQ W NE C)) := Hg1
  have Hg2' : Hid (Z = false → ∀ W, Below w.heap.size w W → Calls Try.prog 15 #[.agg #[.slice a L cap], .slice ta M tc] W (NumQ W NE C)) := Hg2
  obtain ⟨x, hx⟩ : ∃ q, Hid (w.heap.size = q) := ⟨_, Lib.hid rfl⟩
  rw [hx.out] at Hbig' Hg1' Hg2' hb0 hA0 ⊢
  have hxs : x ≤ (w.alloc (.cells #[.slice a L cap] 24)).heap.size := by rw [← hx.out]; simp [go_sem]
  clear Hbig Hg1 Hg2 hl ht hf hfew HL HM
  go_enter Try.func4, Try.ntmps4
  go_wp2_with (fail)
  rw [hx.out]
  generalize hV : World.alloc w _ = V at hA0 hb0 hxs ⊢
  clear hV
  refine (live8_any V).mono ?_
  rintro e w1 ⟨rfl, hb1⟩
  have HA1 := Lib.hid (hA0.below hb1 hA0.lt)
  have Hb1 := Lib.hid (hb0.trans (hb1.mono hxs))
  have hx1 := Nat.le_trans hxs hb1.size
  clear hA0 hb0 hb1 hxs
  have x0 := HA1.out.cell 0
  have xl := HA1.out.lt
  simp only [List.getElem?_cons_zero] at x0
  go_wp2_with (fail)
  refine (Hbig'.out _ Hb1.out).mono ?_
  rintro e w2 ⟨rfl, hb2⟩
  have HA2 := Lib.hid (HA1.out.below hb2 HA1.out.lt)
  have Hb2 := Lib.hid (Hb1.out.trans (hb2.mono hx1))
  have hx2 := Nat.le_trans hx1 hb2.size
  clear hb2 HA1 Hb1 hx1 x0 xl Hbig'
  cases Z
  case true =>
    clear Hg1' Hg2' HA2
    go_wp2_with (fail)
    exact bodyPost_ret (v := .bool true) (by simp [results, Try.results4, go_sem]; try first | rfl | assumption | omega) rfl ⟨rfl, Hb2.out⟩
  case false =>
  have G1 := Lib.hid (Hg1'.out rfl)
  have G2 := Lib.hid (Hg2'.out rfl)
  clear Hg1' Hg2'
  have x0 := HA2.out.cell 0
  have xl := HA2.out.lt
  simp only [List.getElem?_cons_zero] at x0
  go_wp2_with (fail)
  refine (G1.out _ Hb2.out).mono ?_
  rintro e w3 ⟨d, rfl, hd, hp, hb3⟩
  have HA3 := Lib.hid (HA2.out.below hb3 HA2.out.lt)
  have Hb3 := Lib.hid (Hb2.out.trans (hb3.mono hx2))
  have hx3 := Nat.le_trans hx2 hb3.size
  clear hb3 HA2 Hb2 hx2 x0 xl G1
  have hg4 : Below w3.heap.size w3 (w3.alloc (.cells #[.slice d.ta d.toks.length d.tc, .slice d.na d.names.length d.nc, .slice d.aa d.alts.length d.ac] 33)) := (Below.refl _ w3).alloc (Nat.le_refl _) _
  have HC4 := Lib.hid (Blk.new w3 33 #[.slice d.ta d.toks.length d.tc, .slice d.na d.names.length d.nc, .slice d.aa d.alts.length d.ac])
  have HD4 := Lib.hid (hd.grown hg4)
  have HA4 := Lib.hid (HA3.out.below hg4 HA3.out.lt)
  have Hb4 := Lib.hid (Hb3.out.trans (hg4.mono hx3))
  have hx4 := Nat.le_trans hx3 hg4.size
  have hcl : x < w3.heap.size := HA3.out.lt
  have Hp := Lib.hid hp
  obtain ⟨y, hy⟩ : ∃ q, Hid (w3.heap.size = q) := ⟨_, Lib.hid rfl⟩
  rw [hy.out] at HC4 hcl
  have x0 := HA4.out.cell 0
  have xl := HA4.out.lt
  simp only [List.getElem?_cons_zero] at x0
  clear hg4 hd hp HA3 Hb3 hx3
  go_wp2_with (fail)
  rw [hy.out]
  generalize hV : World.alloc w3 _ = W4 at HC4 HA4 HD4 Hb4 hx4 x0 xl ⊢
  clear hV x0 xl
  refine (G2.out _ Hb4.out).mono ?_
  rintro e w5 ⟨d2, rfl, hd2, hp2, hb5⟩
  have hg6 : Below w5.heap.size w5 (w5.alloc (.cells #[.slice d2.ta d2.toks.length d2.tc, .slice d2.na d2.names.length d2.nc, .slice d2.aa d2.alts.length d2.ac] 33)) := (Below.refl _ w5).alloc (Nat.le_refl _) _
  have hE6 := Blk.new w5 33 #[.slice d2.ta d2.toks.length d2.tc, .slice d2.na d2.names.length d2.nc, .slice d2.aa d2.alts.length d2.ac]
  have hb46 := hb5.trans (hg6.mono hb5.size)
  have hC6 := HC4.out.below hb46 HC4.out.lt
  have HD6 := HD4.out.grown hb46
  have Hb6 := Lib.hid (Hb4.out.trans (hb46.mono hx4))
  have hx6 := Nat.le_trans hx4 hb46.size
  have hEq : d.p = d2.p := Hp.out.trans hp2.symm
  have Hs6 := Lib.hid (same8_any d d2 _ HD6 (hd2.grown hg6))
  rw [decide_eq_true hEq] at Hs6
  have c0 := hC6.cell 0
  have c1 := hC6.cell 1
  have c2 := hC6.cell 2
  have cl := hC6.lt
  have e0 := hE6.cell 0
  have e1 := hE6.cell 1
  have e2 := hE6.cell 2
  have el := hE6.lt
  simp only [List.getElem?_cons_zero, List.getElem?_cons_succ] at c0 c1 c2 e0 e1 e2
  clear hg6 hE6 hb46 HC4 HA4 HD4 Hb4 hx4 hC6 HD6 hd2 hp2 Hp hEq hb5 G2
  go_wp2_with (fail)
  refine Hs6.out.mono ?_
  rintro e w7 ⟨rfl, hb7⟩
  have Hb7 := Lib.hid (Hb6.out.trans (hb7.mono hx6))
  clear hb7 c0 c1 c2 cl e0 e1 e2 el Hs6
  go_wp2_with (fail)
  exact bodyPost_ret (v := .bool true) (by simp [results, Try.results4, go_sem]; try first | rfl | assumption | omega) rfl ⟨rfl, Hb7.out⟩
end Go.Proofs.Yteepcedokbjpdaa

namespace Go.Proofs.Yteepcedokbjpdaa
open Go.ChangeShapes Go.WideShapes Go.ChangeAt Go.RowKit

set_option maxRecDepth 100000 in
theorem checkNumbers_contract (H : Type) (enc : TypeId × Value → H) (W : World) (args : Array Value) (ds gs : List (DataW H)) (before : List MemPlace)
    (hval : ∀ (j : Nat) t v, Try.f4.params[j]? = some t → args[j]? = some v → Value.okWide Try.prog W .any 0 t v)
    (hW : DataW.Whole enc Try.prog Try.f4.params.toList Rows.checkNumbersSpec.vars false W args.toList ds gs before) (hk : Rows.uptoSmall H (ds ++ gs) = true) :
    Calls Try.prog 4 args W fun e W' => ∃ v, e = .returned v ∧ Rows.checkNumbersSpec.post enc Try.prog Try.f4 false true false false W args v W' := by
  have hW' := hW
  obtain ⟨p, q, hA0, hV, rfl, hfz, hnd⟩ := hW
  have hA : DataW.TrodAll enc Try.prog W 0 (fun _ => true) true Try.f4.params.toList args.toList ds p := hA0
  rw [Try.params4] at hA hval
  obtain ⟨v0, v1, d0, d1, p0, p1, rfl, rfl, rfl, h0, h1⟩ := trodAll_two hA
  have hb : Rows.uptoBulkAll ([d0, d1] ++ gs) ≤ 1048576 := of_decide_eq_true hk
  simp only [List.cons_append, List.nil_append, Rows.uptoBulkAll] at hb
  obtain ⟨a, cap, l, rfl, hl, hf, hz⟩ := open_gram2 (hval 0 24 v0 rfl rfl) h0
  obtain ⟨ta, tc, ts, rfl, ht, hg, hy⟩ := open_toks2 (hval 1 25 v1 rfl rfl) h1
  refine (lawNumbers_any l a cap ts ta tc W hl ht ⟨hf.rules, hg, hf.alts⟩ (by omega)).mono fun e W' ⟨he, hw⟩ => ?_
  subst he
  exact ⟨_, rfl, law_post hW' rfl rfl (by kernel_rfl) (by rw [Try.params4]; intro t ht; simp at ht; rcases ht with rfl | rfl <;> exact ⟨by kernel_rfl, of_decide_eq_true (by kernel_rfl)⟩) hw⟩

set_option maxRecDepth 100000 in
theorem checkNumbers_lifted (os : Os) (started : os.Started) (H : Type) (enc : TypeId × Value → H) (F : Stop.Interp) :
    ReturnsInHanded {} Try.checked os 4 .any ((Rows.OpenSpec.upto Rows.checkNumbersSpec).pre6 enc Try.prog Try.f4 Rows.checkNumbersUptoRow.domain false) (((Rows.OpenSpec.upto Rows.checkNumbersSpec).at F).post enc Try.prog Try.f4 false true false false) := by
  refine returnsInHanded_of_cond (C := Try.checked) (s := Rows.OpenSpec.upto Rows.checkNumbersSpec) (k := Rows.uptoSmall) rfl Try.own started (by kernel_rfl) Try.func4
    (OpenSpec.witness (enc := enc) (C := Try.checked) (s := Rows.OpenSpec.upto Rows.checkNumbersSpec) (k := Rows.uptoSmall) rfl false ⟨#[], #[.agg #[.slice none 0 0], .slice none 0 0], []⟩ 8 (by kernel_rfl) (by kernel_rfl) (by kernel_rfl)
      (x := ([.agg [.nil], .nil], [], [])) (by kernel_rfl) rfl (by kernel_rfl)) ?_
  intro W base args ds gs before hval hW _ hk _
  exact checkNumbers_contract H enc W args ds gs before hval hW hk

theorem checkNumbers_holds : Rows.CheckNumbersUptoSaid :=
  OpenClaim.holds_of_cond 4 Try.f4 rfl rfl rfl rfl rfl rfl rfl ⟨rfl, rfl, rfl, rfl, rfl⟩ rfl rfl rfl rfl rfl (by kernel_rfl) Try.func4 (by kernel_rfl)
    (of_decide_eq_true (by kernel_rfl)) (by unfold Func.isWrapper; first | (rw [if_pos (by decide +kernel)]; kernel_rfl) | (rw [if_neg (by decide +kernel)]; exact ⟨rfl, rfl⟩))
    (fun os started H enc _ F => checkNumbers_lifted os started H enc F)
end Go.Proofs.Yteepcedokbjpdaa

