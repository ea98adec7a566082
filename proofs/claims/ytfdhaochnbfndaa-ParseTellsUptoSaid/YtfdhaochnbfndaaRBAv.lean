/- Texts joined: Zx Zy Zz Fk. -/
import Derived.Test.YtfdhaochnbfndaaRBAu
import Derived.Deep.QuietTactic
import Derived.BigQuiet
set_option linter.unusedVariables false
set_option linter.unusedSimpArgs false
namespace Go.Proofs.Ytfdhaochnbfndaa
open Go.RowKit Go.Maps
attribute [local go_sem] Oper.semAt_some
set_option maxRecDepth 100000 in
set_option maxHeartbeats 16000000 in
theorem pputRule_any (W0 : World) (d : CfD) (ta : Option Addr) (tc : Nat) (tbs : List IltD) (ka : Option Addr) (kc : Nat) (toks : List Int) (hE : PrE W0 d ta tc tbs ka kc toks) (a bp nb no : Nat) (k nd : Int) (oa : Option Addr) (n oc ob : Nat) (xs : List Value) (w : World) (hW : Below W0.heap.size W0 w) (hB : Blk w bp 155 [.slice d.ta d.toks.length d.tc, .slice d.na d.names.length d.nc, .slice d.aa d.alts.length d.ac, .slice ta tbs.length tc, .slice ka toks.length kc, .int .i64 (a : Int), .int .i64 nd, .slice oa n oc]) (hO : w.ownsRow ob 157 1 (.slice oa n oc) n xs) (hn : n + 1 ≤ 1000000000) (hob : ob ≤ w.heap.size) (v1 v3 : Value) (c0 : w.cell? ⟨nb, no, none⟩ = some (.int .i64 k)) (c1 : w.cell? ⟨nb, no + 1, none⟩ = some v1) (f1 : w.frozen? ⟨nb, no + 1, none⟩ = false) (c3 : w.cell? ⟨nb, no + 3, none⟩ = some v3) (f3 : w.frozen? ⟨nb, no + 3, none⟩ = false) (hne : bp ≠ nb) (hno : (Value.slice oa n oc).ownBlock ≠ some nb) (hnp : (Value.slice oa n oc).ownBlock ≠ some bp) (ha : a ≤ toks.length) (hk : -9223372036854775807 ≤ k ∧ k < 0) :
 Calls Try.prog 167 #[.pointer (some ⟨bp, 0, none⟩), .pointer (some ⟨nb, no, none⟩)] w (PrQ w bp nb no (fun (x : Int) (v : Value) => [.slice d.ta d.toks.length d.tc, .slice d.na d.names.length d.nc, .slice d.aa d.alts.length d.ac, .slice ta tbs.length tc, .slice ka toks.length kc, .int .i64 (a : Int), .int .i64 x, v]) nd ob oa n oc xs a ((gOf d tbs toks).alt (ruL k) a)) := by
 obtain ⟨r, hr⟩ : ∃ r : Nat, (r : Int) = -1 - k := ⟨(-1 - k).toNat, by omega⟩
 have hru : ruL k = r := by unfold ruL; omega
 rw [hru]
 have hnx : 0 ≤ (gOf d tbs toks).next a ∧ (gOf d tbs toks).next a ≤ 9223372036854775807 := by
  by_cases hlt : a < toks.length
  ·rw [next_at (G := gOf d tbs toks) hlt]
   exact ⟨hE.ge.nn _ (List.getElem_mem hlt), hE.krg _ (List.getElem_mem hlt)⟩
  ·rw [next_end (G := gOf d tbs toks) (by show toks.length ≤ a; omega)]
   have h1 := hE.ge.gd.toks.le
   have h2 := hE.ge.gd.toks.max
   rw [List.length_map] at h1
   show (0 : Int) ≤ (d.toks.length : Int) ∧ (d.toks.length : Int) ≤ _
   omega
 obtain ⟨RA, hRA⟩ : ∃ q, (gOf d tbs toks).alt r a = q := ⟨_, rfl⟩
 have HRA0 := hRA.symm.trans (alt_step hnx.1)
 rw [hRA]
 have Hru := Lib.hid (fun W => by have h := pruleOf_any k W (by omega); rw [← hr] at h; exact h)
 have Hnx := Lib.hid (fun W hw hb => pnext_any d ta tbs.length tc ka kc toks (d.alts.map IrD.p) (tbs.map (fun x => x.l)) a bp nd (.slice oa n oc) W ((hE.ge.grown hw).gd) ((hE.ge.grown hw).gk) hb ha)
 change Hid (∀ W, Below W0.heap.size W0 W → _ → Calls Try.prog _ _ W fun e w' => e = .returned (.int .i64 ((gOf d tbs toks).next a)) ∧ Below W.heap.size W w') at Hnx
 -- the table's row, what it tells, the rule, the alternative
 have hTI : Ints W0 (trow tbs r).a (trow tbs r).c (trow tbs r).l := by
  unfold trow
  cases e : tbs[r]? with
  | none => exact Vs.nil W0
  | some t => exact hE.ge.gt.nms t (List.mem_of_getElem? e)
 have hAI : AltsI W0 (arow d r).a (arow d r).c (arow d r).ds := by
  unfold arow
  cases e : d.alts[r]? with
  | none => exact ⟨Vs.nil W0, fun x h => by cases h⟩
  | some t => exact hE.ge.gd.rules t (List.mem_of_getElem? e)
 have HeR := Lib.hid (fun W (hw : Below W0.heap.size W0 W) => by
  have h := elemR_any ta tc (tbs.map IltD.v) (r : Int) W ((hE.grown hw).ge.gt.row) (by omega)
  rw [List.length_map, if_neg (by omega), Int.toNat_natCast] at h
  have e : ((tbs.map IltD.v)[r]?).getD (.slice none 0 0) = .slice (trow tbs r).a (trow tbs r).l.length (trow tbs r).c := by
   rw [List.getElem?_map]
   unfold trow
   cases tbs[r]? <;> rfl
  rw [e] at h
  exact h)
 have HeA := Lib.hid (fun W (hw : Below W0.heap.size W0 W) => by
  have h := elemA_any d.aa d.ac (d.alts.map IrD.v) (r : Int) W ((hE.grown hw).ge.gd.alts) (by omega)
  rw [List.length_map, if_neg (by omega), Int.toNat_natCast] at h
  have e : ((d.alts.map IrD.v)[r]?).getD (.slice none 0 0) = .slice (arow d r).a (arow d r).ds.length (arow d r).c := by
   rw [List.getElem?_map]
   unfold arow
   cases d.alts[r]? <;> rfl
  rw [e] at h
  exact h)
 obtain ⟨X, hX⟩ : ∃ q, (gOf d tbs toks).next a = q := ⟨_, rfl⟩
 rw [hX] at Hnx HRA0 hnx
 have hT1 : -9223372036854775808 ≤ tkn (trow tbs r).l X ∧ tkn (trow tbs r).l X ≤ 9223372036854775807 := by
  unfold tkn trow
  cases e : tbs[r]? with
  | none => exact ⟨by simp [nilI], by simp [nilI]⟩
  | some t =>
   show -9223372036854775808 ≤ (t.l[X.toNat]?).getD 0 ∧ (t.l[X.toNat]?).getD 0 ≤ _
   cases e2 : t.l[X.toNat]? with
   | none => simp
   | some y => exact hE.trg t (List.mem_of_getElem? e) y (List.mem_of_getElem? e2)
 have HeI := Lib.hid (fun W (hw : Below W0.heap.size W0 W) => by
  have h := elemI_any (trow tbs r).a (trow tbs r).c (trow tbs r).l X W (hTI.grown hw) (by omega)
  rw [if_neg (by omega)] at h
  exact h)
 change Hid (∀ W, Below W0.heap.size W0 W → Calls Try.prog _ _ W fun e w' => e = .returned (.tuple #[.int .i64 (tkn (trow tbs r).l X), .bool (decide (0 ≤ X ∧ X < ((trow tbs r).l.length : Int)))]) ∧ w' = W) at HeI
 have hXI : Ints W0 (aln (arow d r).ds (tkn (trow tbs r).l X)).a (aln (arow d r).ds (tkn (trow tbs r).l X)).c (aln (arow d r).ds (tkn (trow tbs r).l X)).l ∧ (aln (arow d r).ds (tkn (trow tbs r).l X)).l.length ≤ 30 := by
  unfold aln
  split
  ·exact ⟨Vs.nil W0, by show 0 ≤ 30; omega⟩
  ·cases e : (arow d r).ds[(tkn (trow tbs r).l X).toNat]? with
   | none => exact ⟨Vs.nil W0, by show 0 ≤ 30; omega⟩
   | some y =>
    refine ⟨hAI.nms y (List.mem_of_getElem? e), ?_⟩
    unfold arow at e
    cases e2 : d.alts[r]? with
    | none => rw [e2] at e; simp [nilR] at e
    | some ru =>
     rw [e2] at e
     exact (hE.srg ru (List.mem_of_getElem? e2) y (List.mem_of_getElem? e)).1
 have HeR2 := Lib.hid (fun W (hw : Below W0.heap.size W0 W) => by
  have h := elemR_any (arow d r).a (arow d r).c ((arow d r).ds.map IltD.v) (tkn (trow tbs r).l X) W ((hAI.grown hw).row) hT1
  rw [List.length_map] at h
  have e : (if tkn (trow tbs r).l X < 0 then Value.slice none 0 0 else (((arow d r).ds.map IltD.v)[(tkn (trow tbs r).l X).toNat]?).getD (.slice none 0 0)) = .slice (aln (arow d r).ds (tkn (trow tbs r).l X)).a (aln (arow d r).ds (tkn (trow tbs r).l X)).l.length (aln (arow d r).ds (tkn (trow tbs r).l X)).c := by
   unfold aln
   split
   ·rfl
   ·rw [List.getElem?_map]
    cases (arow d r).ds[(tkn (trow tbs r).l X).toNat]? <;> rfl
  rw [e] at h
  exact h)
 obtain ⟨T1, hTk⟩ : ∃ q, tkn (trow tbs r).l X = q := ⟨_, rfl⟩
 rw [hTk] at HRA0 hT1 HeI hXI HeR2
 obtain ⟨al, hal⟩ : ∃ q, aln (arow d r).ds T1 = q := ⟨_, rfl⟩
 rw [hal] at HRA0 hXI HeR2
 have htm : tbs.length ≤ tc ∧ tc ≤ 9223372036854775807 := ⟨by have := hE.ge.gt.row.le; rwa [List.length_map] at this, hE.ge.gt.row.max⟩
 have hlm : d.alts.length ≤ d.ac ∧ d.ac ≤ 9223372036854775807 := ⟨by have := hE.ge.gd.alts.le; rwa [List.length_map] at this, hE.ge.gd.alts.max⟩
 have hxlm : al.l.length ≤ al.c ∧ al.c ≤ 9223372036854775807 := ⟨by have := hXI.1.le; rwa [List.length_map] at this, hXI.1.max⟩
 have hx30 := hXI.2
 obtain ⟨Q, hQ⟩ : ∃ Q : Ending → World → Prop, Hid (PrQ w bp nb no (fun (x : Int) (v : Value) => [.slice d.ta d.toks.length d.tc, .slice d.na d.names.length d.nc, .slice d.aa d.alts.length d.ac, .slice ta tbs.length tc, .slice ka toks.length kc, .int .i64 (a : Int), .int .i64 x, v]) nd ob oa n oc xs a RA = Q) := ⟨_, Lib.hid rfl⟩
 rw [hQ.out]
 have HQN : Hid (RA = none → ∀ W, Below w.heap.size w W → Q (refuP (a : Int) 110) W) := Lib.hid (fun h W hb => by rw [← hQ.out, h]; exact ⟨rfl, hb⟩)
 have HQ0 : Hid (∀ i ks, RA = some (i, ks) → ks = [] → ∀ w1, Below w.heap.size w w1 → Q (.returned (.tuple #[])) (w1.setCell ⟨nb, no + 1, none⟩ (.int .i64 (i : Int)))) := Lib.hid (fun i ks h hk w1 hb => by rw [← hQ.out, h]; exact ⟨rfl, .inl ⟨hk, w1, hb, rfl⟩⟩)
 have HQ1 : Hid (∀ i ks, RA = some (i, ks) → ks ≠ [] → ∀ W g oa' oc', w.heap.size ≤ g → KeB (fun b => b = bp ∨ b = nb ∨ (Value.slice oa n oc).ownBlock = some b) w W → W.heap[nb]? = ((w.setCell ⟨nb, no + 1, none⟩ (.int .i64 (i : Int))).setCell ⟨nb, no + 3, none⟩ (.slice (some ⟨g, 0, none⟩) 0 ks.length)).heap[nb]? → Blk W bp 155 [.slice d.ta d.toks.length d.tc, .slice d.na d.names.length d.nc, .slice d.aa d.alts.length d.ac, .slice ta tbs.length tc, .slice ka toks.length kc, .int .i64 (a : Int), .int .i64 nd, .slice oa' (n + 1) oc'] → W.ownsRow ob 157 1 (.slice oa' (n + 1) oc') (n + 1) (xs ++ [.pointer (some ⟨nb, no, none⟩)]) → W.ownsRow g 51 4 (.slice (some ⟨g, 0, none⟩) 0 ks.length) 0 [] → (∀ b, (Value.slice oa' (n + 1) oc').ownBlock = some b → (Value.slice oa n oc).ownBlock = some b ∨ w.heap.size ≤ b) → (Value.slice oa' (n + 1) oc').ownBlock ≠ some g → Q (.returned (.tuple #[])) W) := Lib.hid (fun i ks h hk W g oa' oc' h1 h2 h3 h4 h5 h6 h7 h8 => by rw [← hQ.out, h]; exact ⟨rfl, .inr ⟨hk, g, oa', oc', h1, h2, h3, h4, h5, h6, h7, h8⟩⟩)
 clear hQ hTI hAI hXI
 obtain ⟨tr, htr⟩ : ∃ q, trow tbs r = q := ⟨_, rfl⟩
 obtain ⟨ar, har⟩ : ∃ q, arow d r = q := ⟨_, rfl⟩
 rw [htr] at HeR HeI HRA0 hTk
 rw [har] at HeA HeR2 HRA0 hal
 obtain ⟨tl, trA, trC⟩ := tr
 obtain ⟨ds, aA, aC⟩ := ar
 obtain ⟨xl, xa, xc⟩ := al
 dsimp only at *
 have HRA := Lib.hid HRA0
 clear HRA0 hRA hX hTk hal hru htr har
 obtain ⟨T, HT⟩ : ∃ q, Hid (d.toks.length = q) := ⟨_, Lib.hid rfl⟩
 obtain ⟨N, HNm⟩ : ∃ q, Hid (d.names.length = q) := ⟨_, Lib.hid rfl⟩
 obtain ⟨L, HL⟩ : ∃ q, Hid (d.alts.length = q) := ⟨_, Lib.hid rfl⟩
 obtain ⟨TB, HTB⟩ : ∃ q, Hid (tbs.length = q) := ⟨_, Lib.hid rfl⟩
 obtain ⟨K, HKK⟩ : ∃ q, Hid (toks.length = q) := ⟨_, Lib.hid rfl⟩
 obtain ⟨TL, HTL⟩ : ∃ q, Hid (tl.length = q) := ⟨_, Lib.hid rfl⟩
 obtain ⟨AL, HAL⟩ : ∃ q, Hid (ds.length = q) := ⟨_, Lib.hid rfl⟩
 obtain ⟨XL, HXL⟩ : ∃ q, Hid (xl.length = q) := ⟨_, Lib.hid rfl⟩
 rw [HT.out, HNm.out, HL.out, HTB.out, HKK.out] at hB HQ1 Hnx
 rw [HTB.out] at HeR htm
 rw [HL.out] at HeA hlm
 rw [HTL.out] at HeR HeI HRA
 rw [HAL.out] at HeA HeR2 HRA
 rw [HXL.out] at HeR2 hx30 hxlm
 obtain ⟨tb1, Htb1⟩ : ∃ q, Hid (decide (0 ≤ X ∧ X < (TL : Int)) = q) := ⟨_, Lib.hid rfl⟩
 obtain ⟨tb2, Htb2⟩ : ∃ q, Hid (decide (0 ≤ T1 ∧ T1 < (AL : Int)) = q) := ⟨_, Lib.hid rfl⟩
 rw [Htb1.out] at HeI
 rw [Htb2.out] at HeR2
 have HW := Lib.hid hW
 have HB := Lib.hid hB
 have HO := Lib.hid hO
 have HE := Lib.hid hE
 have Hbq := Lib.hid (fun q => below_dN9 (Below.refl w.heap.size w) q)
 have HWq : Hid (∀ q, Below W0.heap.size W0 (w.drewN q)) := Lib.hid (fun q => below_dN9 hW q)
 have HBq := Lib.hid (fun q => hB.below (Hbq.out q) hB.lt)
 have nl := World.block_lt_of_cell? _ _ c0
 dsimp only at nl
 have hnx0 := hnx.1
 have y3 := hB.cell 3
 have yl := hB.lt
 simp only [List.getElem?_cons_zero, List.getElem?_cons_succ] at y3
 have HC : Hid (w.cell? ⟨nb, no, none⟩ = some (.int .i64 k) ∧ w.cell? ⟨nb, no + 1, none⟩ = some v1 ∧ w.frozen? ⟨nb, no + 1, none⟩ = false ∧ w.cell? ⟨nb, no + 3, none⟩ = some v3 ∧ w.frozen? ⟨nb, no + 3, none⟩ = false) := Lib.hid ⟨c0, c1, f1, c3, f3⟩
 have HNN := Lib.hid (And.intro hne (And.intro hno hnp))
 clear hW hB hO hE c1 f1 c3 f3 hne hno hnp hr
 go_enter Try.func167, Try.ntmps167
 go_wp2_with (fail)
 go_quiet (first | (go_at_call 153; exact Calls.quiet_of_same (Hru.out _)) | (go_at_call 184; exact Calls.quiet_of_same (HeR.out _ (HWq.out _))))
 go_wp2_with (fail)
 refine (Hnx.out _ (HWq.out _) (HBq.out _)).mono ?_
 rintro e2 w2 ⟨rfl, hb2⟩
 have Hb2 : Hid (Below w.heap.size w w2) := Lib.hid ((Hbq.out _).trans hb2)
 have HW2 := Lib.hid (HW.out.trans (Hb2.out.mono HW.out.size))
 clear hb2
 go_wp2_with (fail)
 refine (HeI.out _ HW2.out).mono ?_
 rintro e3 w3 ⟨rfl, rfl⟩
 have HB2 := Lib.hid (HB.out.below Hb2.out HB.out.lt)
 clear y3 yl c0
 have y2 := HB2.out.cell 2
 have yl := HB2.out.lt
 have c0 := (Hb2.out.cell (p := ⟨nb, no, none⟩) nl).trans HC.out.1
 simp only [List.getElem?_cons_zero, List.getElem?_cons_succ] at y2
 have HWq2 : Hid (∀ q, Below W0.heap.size W0 (w3.drewN q)) := Lib.hid (fun q => below_dN9 HW2.out q)
 have nl2 : nb < w3.heap.size := Nat.lt_of_lt_of_le nl Hb2.out.size
 go_wp2_with (fail)
 go_quiet (first | (go_at_call 153; exact Calls.quiet_of_same (Hru.out _)) | (go_at_call 187; exact Calls.quiet_of_same (HeA.out _ (HWq2.out _))))
 generalize hV : World.drewN w3 _ = w4
 have Hb3 : Hid (Below w.heap.size w w4) := Lib.hid (by rw [← hV]; exact below_dN9 Hb2.out _)
 have HW3 := Lib.hid (HW.out.trans (Hb3.out.mono HW.out.size))
 have HB3 := Lib.hid (HB.out.below Hb3.out HB.out.lt)
 clear hV y2 yl c0 HB2 HW2 HWq2 HWq HBq Hbq nl2
 go_wp2_with (fail)
 refine (HeR2.out _ HW3.out).mono ?_
 rintro e4 w5 ⟨rfl, rfl⟩
 have yl := HB3.out.lt
 have nl3 : nb < w5.heap.size := Nat.lt_of_lt_of_le nl Hb3.out.size
 have c1 := (Hb3.out.cell (p := ⟨nb, no + 1, none⟩) nl).trans HC.out.2.1
 have f1 := (Hb3.out.frozen (p := ⟨nb, no + 1, none⟩) nl).trans HC.out.2.2.1
 have c3 := (Hb3.out.cell (p := ⟨nb, no + 3, none⟩) nl).trans HC.out.2.2.2.1
 have f3 := (Hb3.out.frozen (p := ⟨nb, no + 3, none⟩) nl).trans HC.out.2.2.2.2
 cases tb1
 ·go_wp2_with (fail)
  refine (giveUp_any bp _ _ _ _ _ _ _ (a : Int) 110 _ HB3.out).mono ?_
  rintro e9 w9 ⟨rfl, rfl⟩
  unfold refuP
  dsimp only
  have HPu := HQN.out (by rw [HRA.out]; rw [if_neg (fun e => (of_decide_eq_false Htb1.out) ⟨hnx0, e⟩)]) _ Hb3.out
  unfold refuP at HPu
  first | exact HPu | (go_wp2_with (fail); first | exact HPu | (simpa [bodyPost] using HPu) | trace_state)
 cases tb2
 ·go_wp2_with (fail)
  refine (giveUp_any bp _ _ _ _ _ _ _ (a : Int) 110 _ HB3.out).mono ?_
  rintro e9 w9 ⟨rfl, rfl⟩
  unfold refuP
  dsimp only
  have HPu := HQN.out (by rw [HRA.out]; rw [if_pos (of_decide_eq_true Htb1.out).2, if_neg (of_decide_eq_false Htb2.out)]) _ Hb3.out
  unfold refuP at HPu
  first | exact HPu | (go_wp2_with (fail); first | exact HPu | (simpa [bodyPost] using HPu) | trace_state)
 have hT0 := of_decide_eq_true Htb2.out
 obtain ⟨i, rfl⟩ : ∃ i : Nat, T1 = (i : Int) := ⟨T1.toNat, by omega⟩
 have HRS : Hid (RA = some (i, xl)) := Lib.hid (by rw [HRA.out, if_pos (of_decide_eq_true Htb1.out).2, if_pos hT0, Int.toNat_natCast])
 clear HRA HQN hT0 Htb1 Htb2
 by_cases hx0 : XL = 0
 ·have hxn : xl = [] := List.eq_nil_of_length_eq_zero (by rw [HXL.out]; exact hx0)
  have HF := Lib.hid (HQ0.out i xl HRS.out hxn _ Hb3.out)
  have hx0I : ¬ (0 : Int) < (XL : Int) := by omega
  clear hxn c3 f3
  go_wp2_with (fail)
  first | exact HF.out | (first | go_end0 | refine bodyPost_ret (results_none rfl _ _ _) rfl ?_); first | exact HF.out | trace_state
 ·have hx0I : (0 : Int) < (XL : Int) := by omega
  have hmin : min (XL : Int) 30 = (XL : Int) := by omega
  have hmk : ∀ W : World, (Instr.makeSlice 49 (.int .i64 0) (.int .i64 (XL : Int))).run Try.prog W = .ok (.slice (some ⟨W.heap.size, 0, none⟩) 0 XL) (W.alloc (.cells (madeCells #[.int .i64 0, .int .i64 0, .int .i64 0, .slice none 0 0] (XL * 4)) 51)) := fun W => by
   obtain ⟨i0, hi0, hz0, hs0, hb0⟩ := info_parts info_tree
   have := run_makeSlice (P := Try.prog) W 49 51 i0 _ Try.underlying49 hi0 hz0 .i64 .i64 0 (XL : Int) (by omega) (by omega) (by rw [hs0]; omega) (by rw [hb0]; omega) (by omega)
   rw [hs0, Int.toNat_natCast] at this
   exact this
  have hxn : xl ≠ [] := fun e => hx0 (by rw [← HXL.out, e]; rfl)
  have hne1 : ¬ bp = nb := HNN.out.1
  have hne2 : ¬ nb = bp := fun e => HNN.out.1 e.symm
  have p7 := HB3.out.cell 7
  simp only [List.getElem?_cons_zero, List.getElem?_cons_succ] at p7
  obtain ⟨g, hg⟩ : ∃ q, Hid (w5.heap.size = q) := ⟨_, Lib.hid rfl⟩
  have Hown := Lib.hid (fun b (e : (Value.slice oa n oc).ownBlock = some b) => World.ownsRow.lt HO.out b e)
  have hKS : KeB (fun b => b = bp ∨ b = nb ∨ (Value.slice oa n oc).ownBlock = some b) w5 ((w5.setCell ⟨nb, no + 1, none⟩ (.int .i64 (i : Int))).setCell ⟨nb, no + 3, none⟩ (.slice (some ⟨g, 0, none⟩) 0 XL)) := (KeB.set w5 ⟨nb, no + 1, none⟩ _ (.inr (.inl rfl))).trans (KeB.set _ ⟨nb, no + 3, none⟩ _ (.inr (.inl rfl)))
  have hs7 : ((w5.setCell ⟨nb, no + 1, none⟩ (.int .i64 (i : Int))).setCell ⟨nb, no + 3, none⟩ (.slice (some ⟨g, 0, none⟩) 0 XL)).heap.size = g := by
   rw [← hg.out]
   exact Array.size_modify.trans Array.size_modify
  have ho5 := World.ownsRow.kept HO.out (below_grownBy Hb3.out none) (by cases (Value.slice oa n oc).ownBlock <;> simp)
  have ho7 := (World.ownsRow.kept (World.ownsRow.kept ho5 (grownBy_set w5 nb (no + 1) (.int .i64 (i : Int))) (.inr (fun e => HNN.out.2.1 e))) (grownBy_set _ nb (no + 3) (.slice (some ⟨g, 0, none⟩) 0 XL)) (.inr (fun e => HNN.out.2.1 e)))
  have ho8 := World.ownsRow.alloc ho7 (.cells (madeCells #[.int .i64 0, .int .i64 0, .int .i64 0, .slice none 0 0] (XL * 4)) 51)
  have hs8 : (((w5.setCell ⟨nb, no + 1, none⟩ (.int .i64 (i : Int))).setCell ⟨nb, no + 3, none⟩ (.slice (some ⟨g, 0, none⟩) 0 XL)).alloc (.cells (madeCells #[.int .i64 0, .int .i64 0, .int .i64 0, .slice none 0 0] (XL * 4)) 51)).heap.size = g + 1 := by rw [World.size_alloc, hs7]
  have hgw : w.heap.size ≤ g := by rw [← hg.out]; exact Hb3.out.size
  obtain ⟨oa9, oc9, w9, hrun, ho9, hg9, hfr9⟩ := own_push1 153 153 157 (.pointer none) 8 Try.underlying153 info_ptr rfl (by decide) (.pointer (some ⟨nb, no, none⟩)) rfl ho8 hn (by rw [hs8]; omega)
  have hm8 := World.ownsRow_made (base := g) (e := 51) (size := 4) ((w5.setCell ⟨nb, no + 1, none⟩ (.int .i64 (i : Int))).setCell ⟨nb, no + 3, none⟩ (.slice (some ⟨g, 0, none⟩) 0 XL)) (madeCells #[.int .i64 0, .int .i64 0, .int .i64 0, .slice none 0 0] (XL * 4)) XL (by rw [hs7]; exact Nat.le_refl _) (by unfold maxLen; omega) (size_madeCells _ _)
  rw [hs7] at hm8
  have hgo : (Value.slice oa n oc).ownBlock ≠ some g := fun e => by have := (Hown.out g e).2; omega
  have HM9 := Lib.hid (World.ownsRow.kept hm8 hg9 (.inr (fun e => hgo e.symm)))
  have HB7 : Blk ((w5.setCell ⟨nb, no + 1, none⟩ (.int .i64 (i : Int))).setCell ⟨nb, no + 3, none⟩ (.slice (some ⟨g, 0, none⟩) 0 XL)) bp 155 _ := (HB3.out.setOther (b' := nb) (j := no + 1) hne1 (.int .i64 (i : Int))).setOther (b' := nb) (j := no + 3) hne1 (.slice (some ⟨g, 0, none⟩) 0 XL)
  have HB9 := Lib.hid ((HB7.alloc (.cells (madeCells #[.int .i64 0, .int .i64 0, .int .i64 0, .slice none 0 0] (XL * 4)) 51)).kept hg9 (fun e => HNN.out.2.2 e.symm))
  have HK9 : Hid (KeB (fun b => b = bp ∨ b = nb ∨ (Value.slice oa n oc).ownBlock = some b) w w9) := Lib.hid ((((KeB.of _ Hb3.out).trans hKS).trans (KeB.alloc _ _ _)).trans (KeB.gr hg9 (fun b e => .inr (.inr e))))
  have HH9 : Hid (w9.heap[nb]? = ((w.setCell ⟨nb, no + 1, none⟩ (.int .i64 (i : Int))).setCell ⟨nb, no + 3, none⟩ (.slice (some ⟨g, 0, none⟩) 0 XL)).heap[nb]?) := Lib.hid (by
   rw [hg9.block nb (by rw [hs8]; omega) (fun e => HNN.out.2.1 e.symm), (World.grownBy_alloc _ _ none).block nb (by rw [hs7]; omega) (by simp)]
   exact set_same (set_same (Hb3.out.block nb nl) _ _) _ _)
  have HF9 : Hid (∀ b, (Value.slice oa9 (n + 1) oc9).ownBlock = some b → (Value.slice oa n oc).ownBlock = some b ∨ g + 1 ≤ b) := Lib.hid (fun b e => by have := hfr9 b e; rwa [hs8] at this)
  have HO9 := Lib.hid ho9
  rw [hs8] at hrun
  rw [← hg.out] at hrun
  have Hrun := Lib.hid hrun
  have r7 := HB9.out.cell 7
  have rf7 := HB9.out.frozen 7
  have rl := HB9.out.lt
  simp only [List.getElem?_cons_zero, List.getElem?_cons_succ] at r7
  clear hKS ho5 ho7 ho8 hm8 HB7 hg9 hfr9 hrun hs8 hs7 ho9 HQ0
  go_wp2_with (at_builtin; refine wpList_append_run rfl _ _ 153 153 rfl _ _ _ _ rfl rfl Hrun.out ?_)
  have HK10 := HK9.out.trans (KeB.set w9 ⟨bp, 7, none⟩ (.slice oa9 (n + 1) oc9) (.inl rfl))
  have HH10 : (w9.setCell ⟨bp, 7, none⟩ (.slice oa9 (n + 1) oc9)).heap[nb]? = _ := ((grownBy_set w9 bp 7 (.slice oa9 (n + 1) oc9)).block nb (by have := HK9.out.size; omega) (fun e => hne2 (Option.some.inj e))).trans HH9.out
  have hb9 : (Value.slice oa9 (n + 1) oc9).ownBlock ≠ some bp := fun e => by
   rcases HF9.out bp e with h | h
   ·exact HNN.out.2.2 h
   ·have := HB3.out.lt; have := hg.out; omega
  have HO10 := World.ownsRow.kept HO9.out (grownBy_set w9 bp 7 (.slice oa9 (n + 1) oc9)) (.inr hb9)
  have hbg : bp < g := by rw [← hg.out]; exact HB3.out.lt
  have HM10 := World.ownsRow.kept HM9.out (grownBy_set w9 bp 7 (.slice oa9 (n + 1) oc9)) (.inr (fun e => by simp only [Value.ownBlock, Option.some.injEq] at e; omega))
  have HFF := HQ1.out i xl HRS.out hxn _ g oa9 oc9 hgw HK10 (by rw [HXL.out]; exact HH10) (HB9.out.set 7 (.slice oa9 (n + 1) oc9)) HO10 (by rw [HXL.out]; exact HM10) (fun b e => by rcases HF9.out b e with h | h; exact .inl h; exact .inr (by omega)) (fun e => by rcases HF9.out g e with h | h; exact hgo h; omega)
  first | exact HFF | (first | go_end0 | refine bodyPost_ret (results_none rfl _ _ _) rfl ?_); first | exact HFF | trace_state
end Go.Proofs.Ytfdhaochnbfndaa
namespace Go.Proofs.Ytfdhaochnbfndaa
open Go.RowKit Go.Maps
attribute [local go_sem] Oper.semAt_some
/-- What putting a node leaves. -/
inductive PtQ (w : World) (bp nb no : Nat) (c : Int → Int → Value → List Value) (nd : Int) (ob : Nat) (oa : Option Addr) (n oc : Nat) (xs : List Value) (G : PsG) (k : Int) (a left : Nat) (e : Ending) (W : World) : Prop where
 | long (h : left = 0) (he : e = refuP (a : Int) 2) (hk : KeB (fun b => b = bp ∨ b = nb ∨ (Value.slice oa n oc).ownBlock = some b) w W)
 | tok (h : 0 < left) (h0 : 0 ≤ k) (ht : G.toks[a]? = some k) (he : e = .returned (.tuple #[])) (hk : KeB (fun b => b = bp ∨ b = nb ∨ (Value.slice oa n oc).ownBlock = some b) w W) (hb : Blk W bp 155 (c ((a : Int) + 1) (nd + 1) (.slice oa n oc))) (hn : W.heap[nb]? = (w.setCell ⟨nb, no + 2, none⟩ (.int .i64 (a : Int))).heap[nb]?) (ho : W.ownsRow ob 157 1 (.slice oa n oc) n xs)
 | notok (h : 0 < left) (h0 : 0 ≤ k) (ht : ¬ G.toks[a]? = some k) (he : e = refuP (a : Int) 110) (hk : KeB (fun b => b = bp ∨ b = nb ∨ (Value.slice oa n oc).ownBlock = some b) w W)
 | noalt (h : 0 < left) (h0 : k < 0) (ht : G.alt (ruL k) a = none) (he : e = refuP (a : Int) 110) (hk : KeB (fun b => b = bp ∨ b = nb ∨ (Value.slice oa n oc).ownBlock = some b) w W) (hk2 : KeB (fun b => b = bp) w W)
 | empty (h : 0 < left) (h0 : k < 0) (i : Nat) (ht : G.alt (ruL k) a = some (i, [])) (he : e = .returned (.tuple #[])) (hk : KeB (fun b => b = bp ∨ b = nb ∨ (Value.slice oa n oc).ownBlock = some b) w W) (hb : Blk W bp 155 (c (a : Int) (nd + 1) (.slice oa n oc))) (hn : W.heap[nb]? = (w.setCell ⟨nb, no + 1, none⟩ (.int .i64 (i : Int))).heap[nb]?) (ho : W.ownsRow ob 157 1 (.slice oa n oc) n xs)
 | open_ (h : 0 < left) (h0 : k < 0) (i : Nat) (ks : List Int) (g : Nat) (oa' : Option Addr) (oc' : Nat) (ht : G.alt (ruL k) a = some (i, ks)) (hks : ks ≠ []) (he : e = .returned (.tuple #[])) (hg : w.heap.size ≤ g) (hk : KeB (fun b => b = bp ∨ b = nb ∨ (Value.slice oa n oc).ownBlock = some b) w W) (hn : W.heap[nb]? = ((w.setCell ⟨nb, no + 1, none⟩ (.int .i64 (i : Int))).setCell ⟨nb, no + 3, none⟩ (.slice (some ⟨g, 0, none⟩) 0 ks.length)).heap[nb]?) (hb : Blk W bp 155 (c (a : Int) (nd + 1) (.slice oa' (n + 1) oc'))) (ho : W.ownsRow ob 157 1 (.slice oa' (n + 1) oc') (n + 1) (xs ++ [.pointer (some ⟨nb, no, none⟩)])) (hm : W.ownsRow g 51 4 (.slice (some ⟨g, 0, none⟩) 0 ks.length) 0 []) (hf : ∀ b, (Value.slice oa' (n + 1) oc').ownBlock = some b → (Value.slice oa n oc).ownBlock = some b ∨ w.heap.size ≤ b) (hf2 : (Value.slice oa' (n + 1) oc').ownBlock ≠ some g)
set_option maxRecDepth 100000 in
set_option maxHeartbeats 16000000 in
theorem pput_any (W0 : World) (d : CfD) (ta : Option Addr) (tc : Nat) (tbs : List IltD) (ka : Option Addr) (kc : Nat) (toks : List Int) (hE : PrE W0 d ta tc tbs ka kc toks) (a bp nb no left : Nat) (k nd : Int) (oa : Option Addr) (n oc ob : Nat) (xs : List Value) (w : World) (hW : Below W0.heap.size W0 w) (hbp : W0.heap.size ≤ bp) (hl : nd + (left : Int) = 20000) (hnd : 0 ≤ nd) (hB : Blk w bp 155 [.slice d.ta d.toks.length d.tc, .slice d.na d.names.length d.nc, .slice d.aa d.alts.length d.ac, .slice ta tbs.length tc, .slice ka toks.length kc, .int .i64 (a : Int), .int .i64 nd, .slice oa n oc]) (hO : w.ownsRow ob 157 1 (.slice oa n oc) n xs) (hn : n + 1 ≤ 1000000000) (hob : ob ≤ w.heap.size) (v1 v3 : Value) (y2 : Int) (c0 : w.cell? ⟨nb, no, none⟩ = some (.int .i64 k)) (c1 : w.cell? ⟨nb, no + 1, none⟩ = some v1) (f1 : w.frozen? ⟨nb, no + 1, none⟩ = false) (c2 : w.cell? ⟨nb, no + 2, none⟩ = some (.int .i64 y2)) (f2 : w.frozen? ⟨nb, no + 2, none⟩ = false) (c3 : w.cell? ⟨nb, no + 3, none⟩ = some v3) (f3 : w.frozen? ⟨nb, no + 3, none⟩ = false) (hne : bp ≠ nb) (hno : (Value.slice oa n oc).ownBlock ≠ some nb) (hnp : (Value.slice oa n oc).ownBlock ≠ some bp) (ha : a ≤ toks.length) (hk : -9223372036854775807 ≤ k) :
 Calls Try.prog 152 #[.pointer (some ⟨bp, 0, none⟩), .pointer (some ⟨nb, no, none⟩)] w (PtQ w bp nb no (fun (y : Int) (x : Int) (v : Value) => [.slice d.ta d.toks.length d.tc, .slice d.na d.names.length d.nc, .slice d.aa d.alts.length d.ac, .slice ta tbs.length tc, .slice ka toks.length kc, .int .i64 y, .int .i64 x, v]) nd ob oa n oc xs (gOf d tbs toks) k a left) := by
 obtain ⟨Q, hQ⟩ : ∃ Q : Ending → World → Prop, Hid (PtQ w bp nb no (fun (y : Int) (x : Int) (v : Value) => [.slice d.ta d.toks.length d.tc, .slice d.na d.names.length d.nc, .slice d.aa d.alts.length d.ac, .slice ta tbs.length tc, .slice ka toks.length kc, .int .i64 y, .int .i64 x, v]) nd ob oa n oc xs (gOf d tbs toks) k a left = Q) := ⟨_, Lib.hid rfl⟩
 rw [hQ.out]
 have HQ : Hid (∀ e W, PtQ w bp nb no (fun (y : Int) (x : Int) (v : Value) => [.slice d.ta d.toks.length d.tc, .slice d.na d.names.length d.nc, .slice d.aa d.alts.length d.ac, .slice ta tbs.length tc, .slice ka toks.length kc, .int .i64 y, .int .i64 x, v]) nd ob oa n oc xs (gOf d tbs toks) k a left e W → Q e W) := Lib.hid (fun e W h => by rw [← hQ.out]; exact h)
 clear hQ
 have HL := Lib.hid hl
 have hne2 : nb ≠ bp := fun e => hne e.symm
 have hK1 : KeB (fun b => b = bp ∨ b = nb ∨ (Value.slice oa n oc).ownBlock = some b) w (w.setCell ⟨bp, 6, none⟩ (.int .i64 (nd + 1))) := KeB.set w ⟨bp, 6, none⟩ _ (.inl rfl)
 have hW1 := hW.setCell (p := ⟨bp, 6, none⟩) hbp (.int .i64 (nd + 1))
 have hB1 := hB.set 6 (.int .i64 (nd + 1))
 simp only [List.set_cons_zero, List.set_cons_succ] at hB1
 have hO1 := World.ownsRow.kept hO (grownBy_set w bp 6 (.int .i64 (nd + 1))) (.inr hnp)
 have hs1 : (w.setCell ⟨bp, 6, none⟩ (.int .i64 (nd + 1))).heap.size = w.heap.size := Array.size_modify
 have hnl := World.block_lt_of_cell? _ _ c0
 dsimp only at hnl
 have hg1 := grownBy_set w bp 6 (.int .i64 (nd + 1))
 have hnb1 : (w.setCell ⟨bp, 6, none⟩ (.int .i64 (nd + 1))).heap[nb]? = w.heap[nb]? := hg1.block nb hnl (fun e => hne2 (Option.some.inj e))
 have hcu : ∀ o v, w.cell? ⟨nb, o, none⟩ = some v → (w.setCell ⟨bp, 6, none⟩ (.int .i64 (nd + 1))).cell? ⟨nb, o, none⟩ = some v := fun o v h => (World.cell?_of_block (a := ⟨nb, o, none⟩) hnb1).trans h
 have hfu : ∀ o, w.frozen? ⟨nb, o, none⟩ = false → (w.setCell ⟨bp, 6, none⟩ (.int .i64 (nd + 1))).frozen? ⟨nb, o, none⟩ = false := fun o h => (World.frozen?_of_block (a := ⟨nb, o, none⟩) hnb1).trans h
 have y6 := hB.cell 6
 have y60 := hB.frozen 6
 have yl := hB.lt
 simp only [List.getElem?_cons_zero, List.getElem?_cons_succ] at y6
 have hwn : IntKind.i64.wrap (nd + 1) = nd + 1 := IntWalk.i64_in _ (by omega)
 have HNN := Lib.hid (And.intro hne (And.intro hno hnp))
 have d0 := hcu _ _ c0
 have Hd := Lib.hid (And.intro (hcu _ _ c1) (And.intro (hfu _ f1) (And.intro (hcu _ _ c2) (And.intro (hfu _ f2) (And.intro (hcu _ _ c3) (hfu _ f3))))))
 have HB1 := Lib.hid hB1
 have HW1 := Lib.hid hW1
 have HO1 := Lib.hid hO1
 have HK1 := Lib.hid hK1
 have HK1b := Lib.hid (KeB.set (bad := fun b => b = bp) w ⟨bp, 6, none⟩ (.int .i64 (nd + 1)) rfl)
 have Hnb1 := Lib.hid hnb1
 have hob1 : ob ≤ (w.setCell ⟨bp, 6, none⟩ (.int .i64 (nd + 1))).heap.size := by rw [hs1]; exact hob
 have Hs1 := Lib.hid hs1
 have Hgu := Lib.hid (giveUp_any bp _ _ _ _ _ _ _ (a : Int) 2 _ hB1)
 by_cases hl0 : left = 0
 ·have hgt : (20000 : Int) < nd + 1 := by omega
  clear hl hB1 hW1 hO1 hK1 hnb1 hcu hfu hB hO hW hg1 hs1 hob1 c1 c2 c3 f1 f2 f3 d0
  go_enter Try.func152, Try.ntmps152
  go_wp2_with (fail)
  refine Hgu.out.mono ?_
  rintro e9 w9 ⟨rfl, rfl⟩
  have HQP := HQ.out _ _ (.long hl0 rfl HK1.out)
  unfold refuP
  dsimp only
  have HPu := HQP
  unfold refuP at HPu
  first | exact HPu | (go_wp2_with (fail); first | exact HPu | (simpa [bodyPost] using HPu) | trace_state)
 have hngt : ¬ (20000 : Int) < nd + 1 := by omega
 have h0l : 0 < left := by omega
 by_cases hk0 : 0 ≤ k
 ·have hkn : ¬ k < 0 := by omega
  have Htk := Lib.hid (putToken_any bp nb no _ _ _ _ _ _ ka kc toks a k y2 _ ((hE.ge.grown hW1).gk) ha hB1 d0 Hd.out.2.2.1 Hd.out.2.2.2.1 hne)
  clear hl hB1 hW1 hO1 hK1 hnb1 hcu hfu hB hO hW hg1 hs1 hob1 d0 c1 c2 c3 f1 f2 f3 Hgu
  go_enter Try.func152, Try.ntmps152
  go_wp2_with (fail)
  generalize hV : w.setCell ⟨bp, 6, none⟩ (.int .i64 (nd + 1)) = w1 at HB1 HW1 HO1 HK1 Hnb1 Hd Htk Hs1 ⊢
  have hnl1 : nb < w1.heap.size := by rw [Hs1.out]; exact hnl
  have hbl1 : bp < w1.heap.size := HB1.out.lt
  clear hV c0 y6 y60 yl
  refine Htk.out.mono ?_
  intro e9 w9 h9
  by_cases htk : toks[a]? = some k
  ·rw [if_pos htk] at h9
   obtain ⟨rfl, rfl⟩ := h9
   have hdr := (Below.refl w1.heap.size w1).drew
   have hKd : KeB (fun b => b = bp ∨ b = nb ∨ (Value.slice oa n oc).ownBlock = some b) w ((w1.drew.setCell ⟨nb, no + 2, none⟩ (.int .i64 (a : Int))).setCell ⟨bp, 5, none⟩ (.int .i64 ((a : Int) + 1))) := ((HK1.out.trans (KeB.of _ hdr)).trans (KeB.set _ ⟨nb, no + 2, none⟩ _ (.inr (.inl rfl)))).trans (KeB.set _ ⟨bp, 5, none⟩ _ (.inl rfl))
   have hBd := ((HB1.out.below hdr HB1.out.lt).setOther (b' := nb) (j := no + 2) hne (.int .i64 (a : Int))).set 5 (.int .i64 ((a : Int) + 1))
   have hHd : ((w1.drew.setCell ⟨nb, no + 2, none⟩ (.int .i64 (a : Int))).setCell ⟨bp, 5, none⟩ (.int .i64 ((a : Int) + 1))).heap[nb]? = (w.setCell ⟨nb, no + 2, none⟩ (.int .i64 (a : Int))).heap[nb]? := by
    rw [(grownBy_set _ bp 5 (.int .i64 ((a : Int) + 1))).block nb (by show nb < (w1.drew.heap.modify _ _).size; rw [Array.size_modify]; exact hnl1) (fun e => hne2 (Option.some.inj e))]
    exact set_same ((hdr.block nb hnl1).trans Hnb1.out) _ _
   have hOd := World.ownsRow.kept (World.ownsRow.kept (World.ownsRow.kept HO1.out (grownBy_drew w1 none) (by cases (Value.slice oa n oc).ownBlock <;> simp)) (grownBy_set _ nb (no + 2) (.int .i64 (a : Int))) (.inr HNN.out.2.1)) (grownBy_set _ bp 5 (.int .i64 ((a : Int) + 1))) (.inr HNN.out.2.2)
   have HQE := HQ.out _ _ (.tok h0l hk0 htk rfl hKd hBd hHd hOd)
   go_wp2_with (fail)
   first | exact HQE | (first | go_end0 | refine bodyPost_ret (results_none rfl _ _ _) rfl ?_); first | exact HQE | trace_state
  ·rw [if_neg htk] at h9
   obtain ⟨rfl, rfl⟩ := h9
   have HQP := HQ.out _ _ (.notok h0l hk0 htk rfl (HK1.out.trans (KeB.of _ ((Below.refl w1.heap.size w1).drew))))
   unfold refuP
   dsimp only
   have HPu := HQP
   unfold refuP at HPu
   first | exact HPu | (go_wp2_with (fail); first | exact HPu | (simpa [bodyPost] using HPu) | trace_state)
 ·have hkn : k < 0 := by omega
  have Hpr := Lib.hid (pputRule_any W0 d ta tc tbs ka kc toks hE a bp nb no k (nd + 1) oa n oc ob xs _ hW1 hB1 hO1 hn hob1 v1 v3 d0 Hd.out.1 Hd.out.2.1 Hd.out.2.2.2.2.1 Hd.out.2.2.2.2.2 hne hno hnp ha (by omega))
  clear hl hB1 hW1 hO1 hK1 hnb1 hcu hfu hB hO hW hg1 hs1 hob1 d0 c1 c2 c3 f1 f2 f3 Hgu hk0
  go_enter Try.func152, Try.ntmps152
  go_wp2_with (fail)
  generalize hV : w.setCell ⟨bp, 6, none⟩ (.int .i64 (nd + 1)) = w1 at HB1 HW1 HO1 HK1 HK1b Hnb1 Hd Hpr Hs1 ⊢
  have hnl1 : nb < w1.heap.size := by rw [Hs1.out]; exact hnl
  have hbl1 : bp < w1.heap.size := HB1.out.lt
  clear hV c0 y6 y60 yl
  refine Hpr.out.mono ?_
  intro e9 w9 h9
  unfold PrQ at h9
  cases hra : (gOf d tbs toks).alt (ruL k) a with
  | none =>
   rw [hra] at h9
   obtain ⟨rfl, hb9⟩ := h9
   have HQP := HQ.out _ _ (.noalt h0l hkn hra rfl (HK1.out.trans (KeB.of _ hb9)) (HK1b.out.trans (KeB.of _ hb9)))
   unfold refuP
   dsimp only
   have HPu := HQP
   unfold refuP at HPu
   first | exact HPu | (go_wp2_with (fail); first | exact HPu | (simpa [bodyPost] using HPu) | trace_state)
  | some p =>
   obtain ⟨i, ks⟩ := p
   rw [hra] at h9
   obtain ⟨rfl, h9⟩ := h9
   rcases h9 with ⟨rfl, w2, hb2, rfl⟩ | ⟨hks, g, oa', oc', hg, hk9, hh9, hb9, ho9, hm9, hf9, hf2⟩
   ·have hKd : KeB (fun b => b = bp ∨ b = nb ∨ (Value.slice oa n oc).ownBlock = some b) w (w2.setCell ⟨nb, no + 1, none⟩ (.int .i64 (i : Int))) := (HK1.out.trans (KeB.of _ hb2)).trans (KeB.set _ ⟨nb, no + 1, none⟩ _ (.inr (.inl rfl)))
    have hBd := (HB1.out.below hb2 HB1.out.lt).setOther (b' := nb) (j := no + 1) hne (.int .i64 (i : Int))
    have hHd : (w2.setCell ⟨nb, no + 1, none⟩ (.int .i64 (i : Int))).heap[nb]? = (w.setCell ⟨nb, no + 1, none⟩ (.int .i64 (i : Int))).heap[nb]? := set_same ((hb2.block nb hnl1).trans Hnb1.out) _ _
    have hOd := World.ownsRow.kept (World.ownsRow.kept HO1.out (below_grownBy hb2 none) (by cases (Value.slice oa n oc).ownBlock <;> simp)) (grownBy_set _ nb (no + 1) (.int .i64 (i : Int))) (.inr HNN.out.2.1)
    have HQE := HQ.out _ _ (.empty h0l hkn i hra rfl hKd hBd hHd hOd)
    go_wp2_with (fail)
    first | exact HQE | (first | go_end0 | refine bodyPost_ret (results_none rfl _ _ _) rfl ?_); first | exact HQE | trace_state
   ·have hHd : w9.heap[nb]? = ((w.setCell ⟨nb, no + 1, none⟩ (.int .i64 (i : Int))).setCell ⟨nb, no + 3, none⟩ (.slice (some ⟨g, 0, none⟩) 0 ks.length)).heap[nb]? := hh9.trans (set_same (set_same Hnb1.out _ _) _ _)
    have HQE := HQ.out _ _ (.open_ h0l hkn i ks g oa' oc' hra hks rfl (by rw [← Hs1.out]; exact hg) (HK1.out.trans hk9) hHd hb9 ho9 hm9 (fun b e => by rcases hf9 b e with h | h; exact .inl h; exact .inr (by rw [← Hs1.out]; exact h)) hf2)
    go_wp2_with (fail)
    first | exact HQE | (first | go_end0 | refine bodyPost_ret (results_none rfl _ _ _) rfl ?_); first | exact HQE | trace_state
end Go.Proofs.Ytfdhaochnbfndaa
namespace Go.Proofs.Ytfdhaochnbfndaa
open Go.RowKit Go.Maps
attribute [local go_sem] Oper.semAt_some
theorem own_eq {W W' : World} {base e s g n c : Nat} {xs : List Value} (h : W.ownsRow base e s (.slice (some ⟨g, 0, none⟩) n c) n xs) (hh : W'.heap[g]? = W.heap[g]?) : W'.ownsRow base e s (.slice (some ⟨g, 0, none⟩) n c) n xs := by
 refine ⟨h.1, ?_⟩
 rcases h.2 with ⟨e1, _⟩ | ⟨g', cp, cur, e1, hb, hk, hr⟩
 ·cases e1
 ·injection e1 with e1 e2 e3
  have e4 : g = g' := by simpa using e1
  subst e4
  subst e3
  exact .inr ⟨g, c, cur, rfl, hb, hh.trans hk, hr⟩
theorem own_pop {W : World} {base e m c : Nat} {a : Option Addr} {xs : List Value} (h : W.ownsRow base e 1 (.slice a (m + 1) c) (m + 1) xs) : W.ownsRow base e 1 (.slice a m c) m (xs.take m) := by
 have hl : xs.length = m + 1 := by simpa using h.1
 refine ⟨by rw [List.length_take, hl]; omega, ?_⟩
 rcases h.2 with ⟨e1, e2⟩ | ⟨g', cp, cur, e1, hb, hk, hle, hm, hs, ht⟩
 ·omega
 ·injection e1 with e1 e2 e3
  subst e1
  subst e3
  refine .inr ⟨g', c, cur, rfl, hb, hk, by omega, hm, hs, ?_⟩
  rw [← ht, List.take_take]
  congr 1
  omega
theorem keb_cell {bad : Nat → Prop} {W W' : World} (hk : KeB bad W W') {b off : Nat} {v : Value} (hn : ¬ bad b) (h : W.cell? ⟨b, off, none⟩ = some v) : W'.cell? ⟨b, off, none⟩ = some v :=
 (World.cell?_of_block (a := ⟨b, off, none⟩) (hk.block b (World.block_lt_of_cell? W _ h) hn)).trans h
theorem trs_keb {w w' : World} {P bad : Nat → Prop} {cap : Nat} {a : Option Addr} {f : TrF} (h : TrS w P a cap f) (hk : KeB bad w w') (hn : ∀ b, P b → ¬ bad b) : TrS w' P a cap f := h.kept (fun _ _ _ hb hv => keb_cell hk (hn _ hb) hv)
theorem trcs_keb {w w' : World} {P bad : Nat → Prop} {f : TrF} {cs : List Value} (h : TrCs w P f cs) (hk : KeB bad w w') (hn : ∀ b, P b → ¬ bad b) : TrCs w' P f cs := h.kept (fun _ _ _ hb hv => keb_cell hk (hn _ hb) hv)
/-- A node that is open: what is put in it, where its kids lie, how many there will be. -/
structure FrM where
 f : PsF
 g : Nat
 c : Nat
def nodC (x : FrM) (m : Nat) : List Value := [.int .i64 x.f.k, .int .i64 x.f.i, .int .i64 0, .slice (some ⟨x.g, 0, none⟩) m x.c]
def adB (nb : Nat) : List FrM → Nat
 | [] => nb
 | x :: _ => x.g
def adO : List FrM → Nat
 | [] => 0
 | x :: _ => x.f.l.len * 4
def RowX (W : World) (P : Nat → Prop) (x : FrM) (m : Nat) (v : List Value) : Prop := ∃ cs, TrCs W P x.f.l cs ∧ W.ownsRow 0 51 4 (.slice (some ⟨x.g, 0, none⟩) m x.c) m (cs ++ v)
/-- These nodes are open, the innermost first; ahead of it stand the cells of what is being put in it. -/
def FrU (W : World) (P : Nat → Prop) (nb : Nat) : List Value → List FrM → Prop
 | v, [] => Blk W nb 51 v
 | v, x :: fs => RowX W P x (x.f.l.len + 1) v ∧ FrU W P nb (nodC x (x.f.l.len + 1)) fs
theorem RowX.keb {W W' : World} {P bad : Nat → Prop} {x : FrM} {m : Nat} {v : List Value} (h : RowX W P x m v) (hk : KeB bad W W') (hP : ∀ b, P b → ¬ bad b) (hg : ¬ bad x.g) : RowX W' P x m v := by
 obtain ⟨cs, h1, h2⟩ := h
 exact ⟨cs, trcs_keb h1 hk hP, own_eq h2 (hk.block _ (World.ownsRow.lt h2 _ rfl).2 hg)⟩
theorem RowX.imp {W : World} {P Q : Nat → Prop} {x : FrM} {m : Nat} {v : List Value} (h : RowX W P x m v) (hp : ∀ b, P b → b < W.heap.size → Q b) : RowX W Q x m v := by
 obtain ⟨cs, h1, h2⟩ := h
 exact ⟨cs, h1.imp hp, h2⟩
theorem FrU.keb {W W' : World} {P bad : Nat → Prop} {nb : Nat} (hk : KeB bad W W') (hP : ∀ b, P b → ¬ bad b) (hnb : ¬ bad nb) : ∀ {fs : List FrM} {v : List Value}, FrU W P nb v fs → (∀ x ∈ fs, ¬ bad x.g) → FrU W' P nb v fs
 | [], v, h, _ => by
  have h : Blk W nb 51 v := h
  exact (hk.block nb h.lt hnb).trans h
 | x :: fs, v, h, hx => ⟨h.1.keb hk hP (hx x (List.mem_cons_self ..)), FrU.keb hk hP hnb h.2 (fun y hy => hx y (List.mem_cons_of_mem _ hy))⟩
theorem FrU.imp {W : World} {P Q : Nat → Prop} {nb : Nat} (hp : ∀ b, P b → b < W.heap.size → Q b) : ∀ {fs : List FrM} {v : List Value}, FrU W P nb v fs → FrU W Q nb v fs
 | [], _, h => h
 | _ :: _, _, h => ⟨h.1.imp hp, FrU.imp hp h.2⟩
theorem rowx_cs {W : World} {P : Nat → Prop} {x : FrM} {cs : List Value} (h : TrCs W P x.f.l cs) : cs.length = x.f.l.len * 4 := h.len
theorem FrU.cell {W : World} {P : Nat → Prop} {nb : Nat} {fs : List FrM} {v : List Value} (h : FrU W P nb v fs) (hv : v.length = 4) {j : Nat} (hj : j < 4) : W.cell? ⟨adB nb fs, adO fs + j, none⟩ = v[j]? ∧ W.frozen? ⟨adB nb fs, adO fs + j, none⟩ = false := by
 cases fs with
 | nil =>
  have h : Blk W nb 51 v := h
  exact ⟨h.cell (0 + j) |>.trans (by rw [Nat.zero_add]), h.frozen (0 + j)⟩
 | cons x fs =>
  obtain ⟨⟨cs, h1, h2⟩, _⟩ := h
  refine ⟨?_, own_frz h2⟩
  show W.cell? ⟨x.g, x.f.l.len * 4 + j, none⟩ = _
  rw [h2.cellAt _ (by omega), ← rowx_cs h1, List.getElem?_append_right (by omega)]
  congr 1
  omega
theorem FrU.lt {W : World} {P : Nat → Prop} {nb : Nat} {fs : List FrM} {v : List Value} (h : FrU W P nb v fs) : adB nb fs < W.heap.size := by
 cases fs with
 | nil => exact Blk.lt (h : Blk W nb 51 v)
 | cons x fs =>
  obtain ⟨⟨cs, h1, h2⟩, _⟩ := h
  exact (World.ownsRow.lt h2 _ rfl).2
/-- A cell of the node that is being put is written. -/
theorem FrU.upd {W W' : World} {P bad : Nat → Prop} {nb : Nat} {fs : List FrM} {v : List Value} (h : FrU W P nb v fs) (hv : v.length = 4) {j : Nat} (hj : j < 4) (u : Value) (hk : KeB bad W W') (hP : ∀ b, P b → ¬ bad b) (hoth : ∀ y ∈ fs.drop 1, ¬ bad y.g) (hnb : fs ≠ [] → ¬ bad nb) (hh : W'.heap[adB nb fs]? = (W.setCell ⟨adB nb fs, adO fs + j, none⟩ u).heap[adB nb fs]?) : FrU W' P nb (v.set j u) fs := by
 cases fs with
 | nil =>
  have h : Blk W nb 51 v := h
  have h2 := h.set (0 + j) u
  rw [Nat.zero_add] at h2
  change W'.heap[nb]? = (W.setCell ⟨nb, 0 + j, none⟩ u).heap[nb]? at hh
  rw [Nat.zero_add] at hh
  exact hh.trans h2
 | cons x fs =>
  obtain ⟨⟨cs, h1, h2⟩, h3⟩ := h
  have h4 := own_setC h2 (x.f.l.len * 4 + j) u
  have e : (cs ++ v).set (x.f.l.len * 4 + j) u = cs ++ v.set j u := by
   rw [List.set_append_right _ _ (by rw [rowx_cs h1]; omega), rowx_cs h1]
   congr 2
   omega
  rw [e] at h4
  exact ⟨⟨cs, trcs_keb h1 hk hP, own_eq h4 hh⟩, h3.keb hk hP (hnb (by simp)) (fun y hy => hoth y hy)⟩
/-- What is put is whole: it is one of the kids. -/
theorem FrU.close {W : World} {P : Nat → Prop} {nb : Nat} {x : FrM} {fs : List FrM} {t : Tre} {ga : Option Addr} {gc : Nat} (h : FrU W P nb [.int .i64 t.k, .int .i64 t.i, .int .i64 t.a, .slice ga t.l.len gc] (x :: fs)) (ht : TrS W P ga gc t.l) (ks : List Int) :
 RowX W P ⟨⟨x.f.k, x.f.i, x.f.l.app (t.con .nil), ks⟩, x.g, x.c⟩ (x.f.l.len + 1) [] ∧ FrU W P nb (nodC x (x.f.l.len + 1)) fs := by
 obtain ⟨⟨cs, h1, h2⟩, h3⟩ := h
 refine ⟨⟨_, TrCs.app h1 (TrCs.one (h := ⟨t.k, t.i, t.a⟩) ht), ?_⟩, h3⟩
 rw [List.append_nil]
 exact h2
/-- A node that has all its kids reads as a tree. -/
theorem RowX.tree {W : World} {P Q : Nat → Prop} {x : FrM} (h : RowX W P x x.f.l.len []) (hp : ∀ b, P b → b < W.heap.size → Q b) (hg : Q x.g) : TrS W Q (some ⟨x.g, 0, none⟩) x.c x.f.l := by
 obtain ⟨cs, h1, h2⟩ := h
 rw [List.append_nil] at h2
 exact row_trs h2 (h1.imp hp) (fun g o e _ => by cases e; exact hg)
/-- The pointers to them, the outermost first. -/
def ptrs (nb : Nat) : List FrM → List Value
 | [] => []
 | _ :: fs => ptrs nb fs ++ [.pointer (some ⟨adB nb fs, adO fs, none⟩)]
theorem ptrs_len (nb : Nat) : ∀ fs : List FrM, (ptrs nb fs).length = fs.length
 | [] => rfl
 | x :: fs => by show (ptrs nb fs ++ [_]).length = fs.length + 1; rw [List.length_append, ptrs_len nb fs]; rfl
theorem ptrs_take (nb : Nat) (x : FrM) (fs : List FrM) : (ptrs nb (x :: fs)).take fs.length = ptrs nb fs := by
 show (ptrs nb fs ++ [_]).take fs.length = _
 rw [← ptrs_len nb fs, List.take_left']
 rfl
theorem ptrs_last (nb : Nat) (x : FrM) (fs : List FrM) : (ptrs nb (x :: fs))[fs.length]? = some (.pointer (some ⟨adB nb fs, adO fs, none⟩)) := by
 show (ptrs nb fs ++ [_])[fs.length]? = _
 rw [List.getElem?_append_right (by rw [ptrs_len]; exact Nat.le_refl _), ptrs_len, Nat.sub_self]
 rfl
/-- Of an open node: its alternative, so many of whose symbols are put or being put. -/
def FrOk (d : CfD) (x : FrM) (m : Nat) : Prop := -9223372036854775807 ≤ x.f.k ∧ x.f.k < 0 ∧ m + x.f.ks.length = x.c ∧ x.c ≤ 30 ∧ ∃ (i : Nat) (ru : IrD) (al : IltD), x.f.i = (i : Int) ∧ d.alts[ruL x.f.k]? = some ru ∧ ru.ds[i]? = some al ∧ al.l.length = x.c ∧ al.l.drop m = x.f.ks
end Go.Proofs.Ytfdhaochnbfndaa
namespace Go.Proofs.Ytfdhaochnbfndaa
open Go.RowKit Go.Maps
attribute [local go_sem] Oper.semAt_some
/-- The blocks in which lies what is whole. -/
def Kp (base : Nat) (gs : List Nat) (own : Option Nat) : Nat → Prop := fun b => base ≤ b ∧ b ∉ gs ∧ own ≠ some b
/-- What holds on the way, while nodes are open. -/
structure PaI (d : CfD) (tbs : List IltD) (toks : List Int) (bp nb base : Nat) (c : Int → Int → Value → List Value) (RES : PsR Tre) (W : World) (x : FrM) (fs : List FrM) (a left : Nat) (oa : Option Addr) (oc : Nat) : Prop where
 go : RES = psGo (gOf d tbs toks) 20000 ((x :: fs).map FrM.f) a left
 pla : a ≤ toks.length
 num : fs.length + 1 + left ≤ 20000
 blk : Blk W bp 155 (c (a : Int) (20000 - (left : Int)) (.slice oa (fs.length + 1) oc))
 opn : W.ownsRow base 157 1 (.slice oa (fs.length + 1) oc) (fs.length + 1) (ptrs nb (x :: fs))
 top : RowX W (Kp base ((x :: fs).map FrM.g) (Value.slice oa (fs.length + 1) oc).ownBlock) x x.f.l.len []
 up : FrU W (Kp base ((x :: fs).map FrM.g) (Value.slice oa (fs.length + 1) oc).ownBlock) nb (nodC x x.f.l.len) fs
 okx : FrOk d x x.f.l.len
 oky : ∀ y ∈ fs, FrOk d y (y.f.l.len + 1)
 nd : ((x :: fs).map FrM.g).Nodup
 gs : ∀ y ∈ x :: fs, base ≤ y.g ∧ y.g < W.heap.size ∧ (Value.slice oa (fs.length + 1) oc).ownBlock ≠ some y.g
/-- What holds at the end. -/
structure PaE (bp nb base : Nat) (c : Int → Int → Value → List Value) (RES : PsR Tre) (W : World) (t : Tre) (a left : Nat) (oa : Option Addr) (oc : Nat) (ga : Option Addr) (gc : Nat) : Prop where
 res : RES = .ok t a left
 blk : Blk W bp 155 (c (a : Int) (20000 - (left : Int)) (.slice oa 0 oc))
 box : Blk W nb 51 [.int .i64 t.k, .int .i64 t.i, .int .i64 t.a, .slice ga t.l.len gc]
 kid : TrS W (fun b => base ≤ b) ga gc t.l
theorem psr_ok (r : PsR Tre) : (r.bind fun x a n => .ok x a n) = r := by cases r <;> rfl
/-- The first node's. -/
theorem first_res {G : PsG} {k : Int} {a left : Nat} (hn : left ≤ 20000) (h0 : 0 < left) (hk : k < 0) : psPut G 20000 k a left = match G.alt (ruL k) a with
 | none => .bad a 110
 | some (i, ks) => psGo G 20000 [⟨k, i, .nil, ks⟩] a (left - 1) := by
 have h := put_rule (G := G) (m := 20000) (k := k) (a := a) (n := left) (fs := []) hn h0 hk
 cases e : G.alt (ruL k) a with
 | none =>
  rw [e] at h
  exact (psr_ok _).symm.trans h
 | some p =>
  obtain ⟨i, ks⟩ := p
  rw [e] at h
  exact (psr_ok _).symm.trans h
theorem go_tok {G : PsG} {f : PsF} {fs : List PsF} {a left : Nat} {k : Int} {ks : List Int} (h : f.ks = k :: ks) (hn : left ≤ 20000) (h0 : 0 < left) (hk : 0 ≤ k) (ht : G.toks[a]? = some k) : psGo G 20000 (f :: fs) a left = psGo G 20000 (⟨f.k, f.i, f.l.app ((⟨k, 0, (a : Int), .nil⟩ : Tre).con .nil), ks⟩ :: fs) (a + 1) (left - 1) := by
 rw [go_put h, put_tok hn h0 hk, if_pos ht, rest_go]
theorem go_notok {G : PsG} {f : PsF} {fs : List PsF} {a left : Nat} {k : Int} {ks : List Int} (h : f.ks = k :: ks) (hn : left ≤ 20000) (h0 : 0 < left) (hk : 0 ≤ k) (ht : ¬ G.toks[a]? = some k) : psGo G 20000 (f :: fs) a left = .bad a 110 := by
 rw [go_put h, put_tok hn h0 hk, if_neg ht]
theorem go_long {G : PsG} {f : PsF} {fs : List PsF} {a : Nat} {k : Int} {ks : List Int} (h : f.ks = k :: ks) : psGo G 20000 (f :: fs) a 0 = .bad a 2 := by
 rw [go_put h, put_long]
theorem go_noalt {G : PsG} {f : PsF} {fs : List PsF} {a left : Nat} {k : Int} {ks : List Int} (h : f.ks = k :: ks) (hn : left ≤ 20000) (h0 : 0 < left) (hk : k < 0) (ht : G.alt (ruL k) a = none) : psGo G 20000 (f :: fs) a left = .bad a 110 := by
 rw [go_put h, put_rule hn h0 hk, ht]
theorem go_open {G : PsG} {f : PsF} {fs : List PsF} {a left i : Nat} {k : Int} {ks ks2 : List Int} (h : f.ks = k :: ks) (hn : left ≤ 20000) (h0 : 0 < left) (hk : k < 0) (ht : G.alt (ruL k) a = some (i, ks2)) : psGo G 20000 (f :: fs) a left = psGo G 20000 (⟨k, (i : Int), .nil, ks2⟩ :: ⟨f.k, f.i, f.l, ks⟩ :: fs) a (left - 1) := by
 rw [go_put h, put_rule hn h0 hk, ht]
theorem go_close {G : PsG} {f y : PsF} {fs : List PsF} {a left : Nat} (h : f.ks = []) : psGo G 20000 (f :: y :: fs) a left = psGo G 20000 (⟨y.k, y.i, y.l.app ((⟨f.k, f.i, 0, f.l⟩ : Tre).con .nil), y.ks⟩ :: fs) a left := by
 rw [go_pop h, rest_go]
theorem go_empty {G : PsG} {f : PsF} {fs : List PsF} {a left i : Nat} {k : Int} {ks : List Int} (h : f.ks = k :: ks) (hn : left ≤ 20000) (h0 : 0 < left) (hk : k < 0) (ht : G.alt (ruL k) a = some (i, [])) : psGo G 20000 (f :: fs) a left = psGo G 20000 (⟨f.k, f.i, f.l.app ((⟨k, (i : Int), 0, .nil⟩ : Tre).con .nil), ks⟩ :: fs) a (left - 1) := by
 rw [go_open h hn h0 hk ht, go_close rfl]
theorem go_last {G : PsG} {f : PsF} {a left : Nat} (h : f.ks = []) : psGo G 20000 [f] a left = .ok ⟨f.k, f.i, 0, f.l⟩ a left := by
 rw [go_pop h]
 rfl
/-- The innermost one has all, and another one is open. -/
theorem PaI.pop {d : CfD} {tbs : List IltD} {toks : List Int} {bp nb base : Nat} {c : Int → Int → Value → List Value} {RES : PsR Tre} {U W : World} {x y : FrM} {fs : List FrM} {a left : Nat} {oa : Option Addr} {oc : Nat} (h : PaI d tbs toks bp nb base c RES U x (y :: fs) a left oa oc) (hks : x.f.ks = []) (hnb : nb ≠ bp) (hbn : nb < base) (hbb : bp < base) (hk : KeB (fun b => b = bp) U W) (hB : Blk W bp 155 (c (a : Int) (20000 - (left : Int)) (.slice oa (fs.length + 1) oc))) :
 PaI d tbs toks bp nb base c RES W ⟨⟨y.f.k, y.f.i, y.f.l.app ((⟨x.f.k, x.f.i, 0, x.f.l⟩ : Tre).con .nil), y.f.ks⟩, y.g, y.c⟩ fs a left oa oc := by
 have hown : (Value.slice oa (fs.length + 1) oc).ownBlock = (Value.slice oa ((y :: fs).length + 1) oc).ownBlock := by cases oa <;> rfl
 have hnd : x.g ∉ (y :: fs).map FrM.g ∧ ((y :: fs).map FrM.g).Nodup := List.nodup_cons.1 h.nd
 have hgx := h.gs x (List.mem_cons_self ..)
 have himp : ∀ b, Kp base ((x :: y :: fs).map FrM.g) (Value.slice oa ((y :: fs).length + 1) oc).ownBlock b → b < U.heap.size → Kp base ((y :: fs).map FrM.g) (Value.slice oa (fs.length + 1) oc).ownBlock b := fun b hb _ => ⟨hb.1, fun e => hb.2.1 (List.mem_cons_of_mem _ e), by rw [hown]; exact hb.2.2⟩
 have hT : TrS U (Kp base ((y :: fs).map FrM.g) (Value.slice oa (fs.length + 1) oc).ownBlock) (some ⟨x.g, 0, none⟩) x.c x.f.l := h.top.tree himp ⟨hgx.1, hnd.1, by rw [hown]; exact hgx.2.2⟩
 have hU := h.up.imp himp
 have hC := FrU.close (t := ⟨x.f.k, x.f.i, 0, x.f.l⟩) hU hT y.f.ks
 have hP : ∀ b, Kp base ((y :: fs).map FrM.g) (Value.slice oa (fs.length + 1) oc).ownBlock b → ¬ b = bp := fun b hb e => by have := hb.1; omega
 have hlen : (y.f.l.app ((⟨x.f.k, x.f.i, 0, x.f.l⟩ : Tre).con .nil)).len = y.f.l.len + 1 := by rw [TrF.app_len]; rfl
 have hy := h.oky y (List.mem_cons_self ..)
 exact {
  go := by rw [h.go]; exact go_close hks
  pla := h.pla
  num := by have := h.num; simp only [List.length_cons] at this; omega
  blk := hB
  opn := by
   have h1 := own_pop h.opn
   have h2 := ptrs_take nb x (y :: fs)
   rw [h2] at h1
   have h3 := World.ownsRow.lt h.opn
   have hz : ∀ g, oa = some g → g = ⟨g.block, 0, none⟩ := fun g e => by
    subst e
    rcases h.opn.2 with ⟨e1, _⟩ | ⟨g', cp, cur, e1, _⟩
    ·cases e1
    ·injection e1 with e1; injection e1 with e1; rw [e1]
   cases oa with
   | none =>
    rcases h.opn.2 with ⟨e1, e2⟩ | ⟨g', cp, cur, e1, _⟩
    ·simp only [List.length_cons] at e2; omega
    ·cases e1
   | some g =>
    have hg := hz g rfl
    rw [hg] at h1 h3 ⊢
    refine own_eq h1 (hk.block _ (h3 _ rfl).2 (fun e => by have e : g.block = bp := e; have h9 : base ≤ g.block := (h3 _ rfl).1; omega))
  top := by
   show RowX W _ _ ((y.f.l.app _).len) []
   rw [hlen]
   refine hC.1.keb hk hP (fun e => ?_)
   have := (h.gs y (by simp)).1
   have e : y.g = bp := e
   omega
  up := by
   show FrU W _ nb (nodC _ ((y.f.l.app _).len)) fs
   rw [hlen]
   refine FrU.keb hk hP hnb hC.2 (fun z hz e => ?_)
   have := (h.gs z (by simp [hz])).1
   omega
  okx := by
   show FrOk d _ ((y.f.l.app _).len)
   rw [hlen]
   exact hy
  oky := fun z hz => h.oky z (List.mem_cons_of_mem _ hz)
  nd := hnd.2
  gs := fun z hz => by
   rcases List.mem_cons.1 hz with rfl | hz
   ·have := h.gs y (by simp)
    exact ⟨this.1, Nat.lt_of_lt_of_le this.2.1 hk.size, by rw [hown]; exact this.2.2⟩
   ·have := h.gs z (by simp [hz])
    exact ⟨this.1, Nat.lt_of_lt_of_le this.2.1 hk.size, by rw [hown]; exact this.2.2⟩ }
end Go.Proofs.Ytfdhaochnbfndaa
