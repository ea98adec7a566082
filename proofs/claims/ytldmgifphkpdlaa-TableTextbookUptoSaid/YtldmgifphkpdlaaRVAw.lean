/- Texts joined: Qf Qg. -/
import Derived.Test.YtldmgifphkpdlaaRVAv
set_option linter.unusedVariables false
set_option linter.unusedSimpArgs false
namespace Go.Proofs.Ytldmgifphkpdlaa
open Go.RowKit Go.Maps
attribute [local go_sem] Oper.semAt_some
set_option maxRecDepth 100000 in
set_option maxHeartbeats 16000000 in
theorem rules_any (d : CfD) (fa : Option Addr) (fc : Nat) (w : World) (hl : d.alts.length ≤ 1000000) :
 Calls Try.prog 73 #[guV d fa fc] w fun e w' => e = .returned (.int .i64 (d.alts.length : Int)) ∧ Below w.heap.size w w' := by
 obtain ⟨xt, xta, xtc, xn, xna, xnc, xa, xaa, xac⟩ := d
 dsimp only [guV] at *
 have hb1 : Below w.heap.size w (w.alloc (.cells #[.slice xta xt.length xtc, .slice xna xn.length xnc, .slice xaa xa.length xac, .slice fa xa.length fc] 95)) := (Below.refl _ w).alloc (Nat.le_refl _) _
 have hA := Blk.new w 95 #[.slice xta xt.length xtc, .slice xna xn.length xnc, .slice xaa xa.length xac, .slice fa xa.length fc]
 obtain ⟨T, HT⟩ : ∃ q, Hid (xt.length = q) := ⟨_, Lib.hid rfl⟩
 obtain ⟨N, HN⟩ : ∃ q, Hid (xn.length = q) := ⟨_, Lib.hid rfl⟩
 obtain ⟨L, HL⟩ : ∃ q, Hid (xa.length = q) := ⟨_, Lib.hid rfl⟩
 rw [HT.out, HN.out, HL.out] at hA hb1
 rw [HT.out, HN.out, HL.out]
 have x0 := hA.cell 0
 have x1 := hA.cell 1
 have x2 := hA.cell 2
 have x3 := hA.cell 3
 have xl := hA.lt
 simp only [List.getElem?_cons_zero, List.getElem?_cons_succ] at x0 x1 x2 x3
 have HA := Lib.hid hA
 have Hb1 := Lib.hid hb1
 rw [HL.out] at hl
 clear hA hb1
 go_enter Try.func73, Try.ntmps73
 go_wp2_with (fail)
 exact bodyPost_ret (v := .int .i64 (L : Int)) (by simp [results, Try.results73, go_sem]; try first | rfl | assumption | omega) rfl ⟨rfl, Hb1.out⟩
/-- The first of a list; -1, if there is none. -/
def onlyI (l : List Int) : Int := match l with | [] => -1 | x :: _ => x
theorem onlyI_nat : ∀ (l : List Nat), onlyI (l.map (fun j : Nat => (j : Int))) = onlyL l
 | [] => rfl
 | _ :: _ => rfl
set_option maxRecDepth 100000 in
set_option maxHeartbeats 16000000 in
theorem onlyOf_any (l : List Int) (a : Option Addr) (c : Nat) (w : World) (h : Ints w a c l) :
 Calls Try.prog 77 #[.slice a l.length c] w fun e w' => e = .returned (.int .i64 (onlyI l)) ∧ w' = w := by
 have hm : l.length ≤ c ∧ c ≤ 9223372036854775807 := ⟨by have := h.le; rwa [List.length_map] at this, h.max⟩
 cases l with
 | nil =>
  dsimp only [List.length_nil, onlyI]
  go_enter Try.func77, Try.ntmps77
  go_wp2_with (fail)
  exact bodyPost_ret (v := .int .i64 (-1)) (by simp [results, Try.results77, go_sem]; try first | rfl | assumption | omega) rfl ⟨rfl, rfl⟩
 | cons x l =>
  obtain ⟨b, bo, hb⟩ := h.at_ 0 (by simp)
  have c0 := h.cell b bo hb 0 (by simp)
  simp only [List.map_cons, List.getElem_cons_zero, Nat.add_zero] at c0
  have hbl := World.block_lt_of_cell? _ _ c0
  subst hb
  dsimp only [onlyI]
  obtain ⟨M, hM⟩ : ∃ q, Hid ((x :: l).length = q) := ⟨_, Lib.hid rfl⟩
  have hM0 : 0 < M := by rw [← hM.out]; simp
  rw [hM.out] at hm ⊢
  have hI : (0 : Int) < (M : Int) := by omega
  have hI2 : ((M : Int) == 0) = false := by rw [beq_eq_false_iff_ne]; omega
  clear h hM
  go_enter Try.func77, Try.ntmps77
  go_wp2_with (fail)
  exact bodyPost_ret (v := .int .i64 x) (by simp [results, Try.results77, go_sem]; try first | rfl | assumption | omega) rfl ⟨rfl, rfl⟩
set_option maxRecDepth 100000 in
set_option maxHeartbeats 16000000 in
theorem takenAt_any (d : CfD) (fa : Option Addr) (fc : Nat) (fs : List IltD) (r j : Nat) (w : World) (hd : CfAt w d) (hf : FitC d) (hfo : FolAt w d fa fc fs) (hrl : r < d.alts.length) (hjl : j < (d.alts[r]).ds.length) :
 Calls Try.prog 74 #[guV d fa fc, .int .i64 (r : Int), .int .i64 (j : Int)] w (RisQ w (TakP (d.alts.map IrD.p) (nulB (d.alts.map IrD.p)) d.toks.length r ((d.alts[r]).ds[j]).l)) := by
 have hok := (hf.l _ (List.getElem_mem hrl) _ (List.getElem_mem hjl))
 have Htn : Hid (∀ t, TakP (d.alts.map IrD.p) (nulB (d.alts.map IrD.p)) d.toks.length r ((d.alts[r]).ds[j]).l t → 0 ≤ t ∧ t ≤ 100) := Lib.hid (fun t ht => tak_near hf hok.2 ht)
 have Hfn : Hid (∀ t, FolP (d.alts.map IrD.p) (nulB (d.alts.map IrD.p)) d.toks.length r t → 0 ≤ t ∧ t ≤ 100) := Lib.hid (fun t ht => fol_near hf ht)
 have Hlead := Lib.hid (fun W (hb : Below w.heap.size w W) (s : List Int) sa sc (hs : Ints W sa sc s) (hok : OkL d.toks.length d.alts.length s) (hsl : s.length ≤ 1000) => sLead_any d s sa sc W (hd.grown hb) hf hs hok hsl)
 have hr60 := hf.r
 have hd30 := hf.a _ (List.getElem_mem hrl)
 have hnm := (hd.rules _ (List.getElem_mem hrl)).nms _ (List.getElem_mem hjl)
 have Hal := Lib.hid (hd.rules _ (List.getElem_mem hrl))
 have Hfo := Lib.hid hfo
 obtain ⟨f, hf9⟩ : ∃ q, Hid (nulB (d.alts.map IrD.p) = q) := ⟨_, Lib.hid rfl⟩
 have HFr : Hid (∀ W fs, FolAt W d fa fc fs → ∀ r (h : r < fs.length), Ris fs[r].l (FolP (d.alts.map IrD.p) f d.toks.length r)) := Lib.hid (fun W fs h r hr => by rw [← hf9.out]; exact h.ris r hr)
 rw [hf9.out] at Htn Hfn Hlead ⊢
 obtain ⟨al, hal9⟩ : ∃ q, Hid (d.alts.map IrD.p = q) := ⟨_, Lib.hid rfl⟩
 rw [hal9.out] at Htn Hfn Hlead HFr ⊢
 obtain ⟨Q, hQ⟩ : ∃ Q : Ending → World → Prop, Hid (RisQ w (TakP al f d.toks.length r ((d.alts[r]).ds[j]).l) = Q) := ⟨_, Lib.hid rfl⟩
 rw [hQ.out]
 have HQ : Hid (∀ W a c l, Ris l (TakP al f d.toks.length r ((d.alts[r]).ds[j]).l) → OwnKZ W w.heap.size a c l → Below w.heap.size w W → Q (.returned (.slice a l.length c)) W) := Lib.hid (fun W a c l h1 h2 h3 => by rw [← hQ.out]; exact ⟨a, c, l, rfl, h1, h2, h3⟩)
 clear hQ
 obtain ⟨e, he⟩ : ∃ v, Hid (d.alts[r] = v) := ⟨_, Lib.hid rfl⟩
 have hjx : j < e.ds.length := by rw [← he.out]; exact hjl
 have hde : ((d.alts[r]).ds[j]) = e.ds[j] := by
  have := he.out
  subst this
  rfl
 rw [hde] at hok Htn HQ hnm
 rw [he.out] at hd30 Hal
 clear hde
 obtain ⟨ed, ea, ec⟩ := e
 dsimp only at hok Htn HQ hnm hd30 Hal hjx
 obtain ⟨x, hel⟩ : ∃ v, Hid (ed[j] = v) := ⟨_, Lib.hid rfl⟩
 rw [hel.out] at hok Htn HQ hnm
 obtain ⟨el, ela, elc⟩ := x
 dsimp only at hok Htn HQ hnm
 have hok1 := hok.1
 have Hok := Lib.hid hok.2
 have Hnm := Lib.hid hnm
 obtain ⟨xt, xta, xtc, xn, xna, xnc, xa, xaa, xac⟩ := d
 obtain ⟨hx1, hx2, hx3, hx4⟩ := hd
 dsimp only [CfD.v, guV] at *
 have hxm : xa.length ≤ xac ∧ xac ≤ 9223372036854775807 := ⟨by have := hx3.le; rwa [List.length_map] at this, hx3.max⟩
 have hdm : ed.length ≤ ec ∧ ec ≤ 9223372036854775807 := ⟨by have := Hal.out.row.le; rwa [List.length_map] at this, Hal.out.row.max⟩
 have HX3 := Lib.hid hx3
 have hrx : r < xa.length := hrl
 obtain ⟨p, po, hp⟩ := hx3.at_ r (by rw [List.length_map]; exact hrl)
 obtain ⟨q, qo, hq⟩ := Hal.out.row.at_ j (by rw [List.length_map]; exact hjx)
 have hb1 : Below w.heap.size w (w.alloc (.cells #[.slice xta xt.length xtc, .slice xna xn.length xnc, .slice xaa xa.length xac, .slice fa xa.length fc] 95)) := (Below.refl _ w).alloc (Nat.le_refl _) _
 have hA := Blk.new w 95 #[.slice xta xt.length xtc, .slice xna xn.length xnc, .slice xaa xa.length xac, .slice fa xa.length fc]
 obtain ⟨T, HT⟩ : ∃ q, Hid (xt.length = q) := ⟨_, Lib.hid rfl⟩
 obtain ⟨N, HN⟩ : ∃ q, Hid (xn.length = q) := ⟨_, Lib.hid rfl⟩
 obtain ⟨L, HL⟩ : ∃ q, Hid (xa.length = q) := ⟨_, Lib.hid rfl⟩
 rw [HT.out, HN.out, HL.out] at hA hb1
 rw [HT.out, HN.out, HL.out]
 have x0 := hA.cell 0
 have x1 := hA.cell 1
 have x2 := hA.cell 2
 have x3 := hA.cell 3
 have xl := hA.lt
 simp only [List.getElem?_cons_zero, List.getElem?_cons_succ] at x0 x1 x2 x3
 have HA := Lib.hid hA
 have Hb1 := Lib.hid hb1
 rw [HT.out] at Htn HQ Hfn
 rw [HT.out, HL.out] at Hok
 rw [HT.out, HN.out, HL.out] at Hlead
 obtain ⟨M, hM⟩ : ∃ q, Hid (ed.length = q) := ⟨_, Lib.hid rfl⟩
 obtain ⟨EL, hEL⟩ : ∃ q, Hid (el.length = q) := ⟨_, Lib.hid rfl⟩
 have hrL : r < L := by rw [← HL.out]; exact hrx
 have hrI : (r : Int) < (L : Int) := by omega
 have hrI0 : (0 : Int) ≤ (r : Int) := by omega
 have hjI : (j : Int) < (M : Int) := by rw [← hM.out]; omega
 have hjI0 : (0 : Int) ≤ (j : Int) := by omega
 rw [HL.out] at hxm hr60
 rw [hM.out] at hdm hd30
 subst hp
 subst hq
 clear hA hb1 hfo hok hnm hx1 hx2 hx3 hx4
 go_enter Try.func74, Try.ntmps74
 go_wp2_with (fail)
 obtain ⟨bx, hbx⟩ : ∃ q, Hid (w.heap.size = q) := ⟨_, Lib.hid rfl⟩
 rw [hbx.out] at HA x0 x1 x2 x3 xl ⊢
 generalize hV : World.alloc w _ = V1 at HA x0 x1 x2 x3 xl Hb1 ⊢
 clear hV x0 x1 x2 x3 xl
 have Hb1d := Lib.hid Hb1.out.drew
 have HAd := Lib.hid (show Blk V1.drew bx 95 [.slice xta T xtc, .slice xna N xnc, .slice (some ⟨p, po, none⟩) L xac, .slice fa L fc] from HA.out)
 have Hld := Lib.hid (Hlead.out V1.drew Hb1d.out el ela elc (Hnm.out.grown Hb1d.out) Hok.out (by omega))
 rw [hEL.out] at Hld
 have hrow := HX3.out.grown Hb1d.out
 have hcl := Hal.out.row.grown Hb1d.out
 have cp := hrow.cell p po rfl r (by rw [List.length_map]; exact hrl)
 rw [List.getElem_map, he.out] at cp
 change _ = some (Value.slice (some ⟨q, qo, none⟩) ed.length ec) at cp
 rw [hM.out] at cp
 have cq := hcl.cell q qo rfl j (by rw [List.length_map]; exact hjx)
 rw [List.getElem_map, hel.out] at cq
 change _ = some (Value.slice ela el.length elc) at cq
 rw [hEL.out] at cq
 have HS1 : Hid (V1.drew.cell? ⟨bx, 0, none⟩ = some (.slice xta T xtc) ∧ V1.drew.cell? ⟨bx, 1, none⟩ = some (.slice xna N xnc) ∧ V1.drew.cell? ⟨bx, 2, none⟩ = some (.slice (some ⟨p, po, none⟩) L xac) ∧ V1.drew.cell? ⟨p, po + r, none⟩ = some (.slice (some ⟨q, qo, none⟩) M ec) ∧ V1.drew.cell? ⟨q, qo + j, none⟩ = some (.slice ela EL elc)) := Lib.hid ⟨HAd.out.cell 0, HAd.out.cell 1, HAd.out.cell 2, cp, cq⟩
 clear hrow hcl cp cq
 refine wp_region_held_drew (S := fun w' => w'.cell? ⟨bx, 0, none⟩ = some (.slice xta T xtc) ∧ w'.cell? ⟨bx, 1, none⟩ = some (.slice xna N xnc) ∧ w'.cell? ⟨bx, 2, none⟩ = some (.slice (some ⟨p, po, none⟩) L xac) ∧ w'.cell? ⟨p, po + r, none⟩ = some (.slice (some ⟨q, qo, none⟩) M ec) ∧ w'.cell? ⟨q, qo + j, none⟩ = some (.slice ela EL elc)) (by kernel_rfl) ?_ (fun hHeld => ?_)
 ·exact HS1.out
 refine wpAnyH_take (i := 0) (v := ?_) (iatLS iatZS) (by kernel_rfl) (by kernel_rfl) (by kernel_rfl) (fun _ _ _ h => h) (Or.inl ⟨by rfl, ?_⟩) (by assumption) ?_
 rotate_left
 ·intro w hSw
  try dsimp only at hSw
  go_simp
  all_goals with_reducible rfl
 try simp only [Act.put, List.setIfInBounds_toArray, List.set_cons_zero, List.set_cons_succ]
 refine wpAnyH_take (i := 1) (v := ?_) (iatLS (iatSS iatZS)) (by kernel_rfl) (by kernel_rfl) (by kernel_rfl) (fun _ _ _ h => h) (Or.inl ⟨by rfl, ?_⟩) (by assumption) ?_
 rotate_left
 ·intro w hSw
  try dsimp only at hSw
  go_simp
  all_goals with_reducible rfl
 try simp only [Act.put, List.setIfInBounds_toArray, List.set_cons_zero, List.set_cons_succ]
 refine wpAnyH_take (i := 2) (v := ?_) (iatLS (iatSS (iatSS iatZS))) (by kernel_rfl) (by kernel_rfl) (by kernel_rfl) (fun _ _ _ h => h) (Or.inl ⟨by rfl, ?_⟩) (by assumption) ?_
 rotate_left
 ·intro w hSw
  try dsimp only at hSw
  go_simp
  all_goals with_reducible rfl
 try simp only [Act.put, List.setIfInBounds_toArray, List.set_cons_zero, List.set_cons_succ]
 refine wpAnyH_take (i := 3) (v := ?_) (iatLS (iatSS (iatSS (iatSS iatZS)))) (by kernel_rfl) (by kernel_rfl) (by kernel_rfl) (fun _ _ _ h => h) (Or.inl ⟨by rfl, ?_⟩) (by assumption) ?_
 rotate_left
 ·intro w hSw
  try dsimp only at hSw
  go_simp
  all_goals with_reducible rfl
 try simp only [Act.put, List.setIfInBounds_toArray, List.set_cons_zero, List.set_cons_succ]
 refine wpAnyH_take (i := 4) (v := ?_) (iatLS (iatSS (iatSS (iatSS (iatSS iatZS))))) (by kernel_rfl) (by kernel_rfl) (by kernel_rfl) (fun _ _ _ h => h) (Or.inl ⟨by rfl, ?_⟩) (by assumption) ?_
 rotate_left
 ·intro w hSw
  try dsimp only at hSw
  go_simp
  all_goals with_reducible rfl
 try simp only [Act.put, List.setIfInBounds_toArray, List.set_cons_zero, List.set_cons_succ]
 refine wpAnyH_take (i := 5) (v := ?_) (iatLS (iatSS (iatSS (iatSS (iatSS (iatSS iatZS)))))) (by kernel_rfl) (by kernel_rfl) (by kernel_rfl) (fun _ _ _ h => h) (Or.inl ⟨by rfl, ?_⟩) (by assumption) ?_
 rotate_left
 ·intro w hSw
  try dsimp only at hSw
  go_simp
  all_goals with_reducible rfl
 try simp only [Act.put, List.setIfInBounds_toArray, List.set_cons_zero, List.set_cons_succ]
 refine wpAnyH_take (i := 6) (v := ?_) (iatLS (iatSS (iatSS (iatSS (iatSS (iatSS (iatSS iatZS))))))) (by kernel_rfl) (by kernel_rfl) (by kernel_rfl) (fun _ _ _ h => h) (Or.inl ⟨by rfl, ?_⟩) (by assumption) ?_
 rotate_left
 ·intro w hSw
  try dsimp only at hSw
  go_simp
  all_goals with_reducible rfl
 try simp only [Act.put, List.setIfInBounds_toArray, List.set_cons_zero, List.set_cons_succ]
 refine wpAnyH_take (i := 7) (v := ?_) (iatLS (iatSS (iatSS (iatSS (iatSS (iatSS (iatSS (iatSS iatZS)))))))) (by kernel_rfl) (by kernel_rfl) (by kernel_rfl) (fun _ _ _ h => h) (Or.inl ⟨by rfl, ?_⟩) (by assumption) ?_
 rotate_left
 ·intro w hSw
  try dsimp only at hSw
  go_simp
  all_goals with_reducible rfl
 try simp only [Act.put, List.setIfInBounds_toArray, List.set_cons_zero, List.set_cons_succ]
 refine wpAnyH_take (i := 8) (v := ?_) (iatLS (iatSS (iatSS (iatSS (iatSS (iatSS (iatSS (iatSS (iatSS iatZS))))))))) (by kernel_rfl) (by kernel_rfl) (by kernel_rfl) (fun _ _ _ h => h) (Or.inl ⟨by rfl, ?_⟩) (by assumption) ?_
 rotate_left
 ·intro w hSw
  try dsimp only at hSw
  go_simp
  all_goals with_reducible rfl
 try simp only [Act.put, List.setIfInBounds_toArray, List.set_cons_zero, List.set_cons_succ]
 refine wpAnyH_take (i := 9) (v := ?_) (iatLS (iatSS (iatSS (iatSS (iatSS (iatSS (iatSS (iatSS (iatSS (iatSS iatZS)))))))))) (by kernel_rfl) (by kernel_rfl) (by kernel_rfl) (fun _ _ _ h => h) (Or.inl ⟨by rfl, ?_⟩) (by assumption) ?_
 rotate_left
 ·intro w hSw
  try dsimp only at hSw
  go_simp
  all_goals with_reducible rfl
 try simp only [Act.put, List.setIfInBounds_toArray, List.set_cons_zero, List.set_cons_succ]
 refine wpAnyH_take (i := 10) (v := ?_) (iatLS (iatSS (iatSS (iatSS (iatSS (iatSS (iatSS (iatSS (iatSS (iatSS (iatSS iatZS))))))))))) (by kernel_rfl) (by kernel_rfl) (by kernel_rfl) (fun _ _ _ h => h) (Or.inl ⟨by rfl, ?_⟩) (by assumption) ?_
 rotate_left
 ·intro w hSw
  try dsimp only at hSw
  go_simp
  all_goals with_reducible rfl
 try simp only [Act.put, List.setIfInBounds_toArray, List.set_cons_zero, List.set_cons_succ]
 refine wpAnyH_ready (rs := [11]) (by kernel_rfl) (by simp) ?_
 refine AllReadyH.cons (iatLS (iatSS (iatSS (iatSS (iatSS (iatSS (iatSS (iatSS (iatSS (iatSS (iatSS (iatSS iatZS)))))))))))) (fun K hK => ?_) AllReadyH.nil
 go_simp
 (with_reducible refine Hld.out.mono ?_)
 rintro e8 w2 ⟨la, lc, l, rfl, hr2, ho2, hb2⟩
 have HR2 := Lib.hid hr2
 have HO2 := Lib.hid ho2
 have HA2 := Lib.hid (HAd.out.below hb2 HAd.out.lt)
 have Hb2 := Lib.hid (Hb1d.out.trans (hb2.mono Hb1d.out.size))
 have hrow := HX3.out.grown Hb2.out
 have hcl := Hal.out.row.grown Hb2.out
 have cp := hrow.cell p po rfl r (by rw [List.length_map]; exact hrl)
 rw [List.getElem_map, he.out] at cp
 change _ = some (Value.slice (some ⟨q, qo, none⟩) ed.length ec) at cp
 rw [hM.out] at cp
 have cq := hcl.cell q qo rfl j (by rw [List.length_map]; exact hjx)
 rw [List.getElem_map, hel.out] at cq
 change _ = some (Value.slice ela el.length elc) at cq
 rw [hEL.out] at cq
 have HS2 : Hid (w2.cell? ⟨bx, 0, none⟩ = some (.slice xta T xtc) ∧ w2.cell? ⟨bx, 1, none⟩ = some (.slice xna N xnc) ∧ w2.cell? ⟨bx, 2, none⟩ = some (.slice (some ⟨p, po, none⟩) L xac) ∧ w2.cell? ⟨p, po + r, none⟩ = some (.slice (some ⟨q, qo, none⟩) M ec) ∧ w2.cell? ⟨q, qo + j, none⟩ = some (.slice ela EL elc)) := Lib.hid ⟨HA2.out.cell 0, HA2.out.cell 1, HA2.out.cell 2, cp, cq⟩
 obtain ⟨LL, hLL⟩ : ∃ q, Hid (l.length = q) := ⟨_, Lib.hid rfl⟩
 rw [hLL.out]
 clear hr2 ho2 hb2 hrow hcl cp cq
 try dsimp only
 refine hK.out _ _ ?_ (fun hHeld => ?_)
 ·exact HS2.out
 clear hK K
 try simp only [Act.put, List.setIfInBounds_toArray, List.set_cons_zero, List.set_cons_succ]
 refine wpAnyH_take (i := 12) (v := ?_) (iatLS (iatSS (iatSS (iatSS (iatSS (iatSS (iatSS (iatSS (iatSS (iatSS (iatSS (iatSS (iatSS iatZS))))))))))))) (by kernel_rfl) (by kernel_rfl) (by kernel_rfl) (fun _ _ _ h => h) (Or.inl ⟨by rfl, ?_⟩) (by assumption) ?_
 rotate_left
 ·intro w hSw
  try dsimp only at hSw
  go_simp
  all_goals with_reducible rfl
 try simp only [Act.put, List.setIfInBounds_toArray, List.set_cons_zero, List.set_cons_succ]
 refine wpAnyH_take (i := 13) (v := ?_) (iatLS (iatSS (iatSS (iatSS (iatSS (iatSS (iatSS (iatSS (iatSS (iatSS (iatSS (iatSS (iatSS (iatSS iatZS)))))))))))))) (by kernel_rfl) (by kernel_rfl) (by kernel_rfl) (fun _ _ _ h => h) (Or.inl ⟨by rfl, ?_⟩) (by assumption) ?_
 rotate_left
 ·intro w hSw
  try dsimp only at hSw
  go_simp
  all_goals with_reducible rfl
 try simp only [Act.put, List.setIfInBounds_toArray, List.set_cons_zero, List.set_cons_succ]
 refine wpAnyH_take (i := 14) (v := ?_) (iatLS (iatSS (iatSS (iatSS (iatSS (iatSS (iatSS (iatSS (iatSS (iatSS (iatSS (iatSS (iatSS (iatSS (iatSS iatZS))))))))))))))) (by kernel_rfl) (by kernel_rfl) (by kernel_rfl) (fun _ _ _ h => h) (Or.inl ⟨by rfl, ?_⟩) (by assumption) ?_
 rotate_left
 ·intro w hSw
  try dsimp only at hSw
  go_simp
  all_goals with_reducible rfl
 try simp only [Act.put, List.setIfInBounds_toArray, List.set_cons_zero, List.set_cons_succ]
 refine wpAnyH_take (i := 15) (v := ?_) (iatLS (iatSS (iatSS (iatSS (iatSS (iatSS (iatSS (iatSS (iatSS (iatSS (iatSS (iatSS (iatSS (iatSS (iatSS (iatSS iatZS)))))))))))))))) (by kernel_rfl) (by kernel_rfl) (by kernel_rfl) (fun _ _ _ h => h) (Or.inl ⟨by rfl, ?_⟩) (by assumption) ?_
 rotate_left
 ·intro w hSw
  try dsimp only at hSw
  go_simp
  all_goals with_reducible rfl
 try simp only [Act.put, List.setIfInBounds_toArray, List.set_cons_zero, List.set_cons_succ]
 refine wpAnyH_take (i := 16) (v := ?_) (iatLS (iatSS (iatSS (iatSS (iatSS (iatSS (iatSS (iatSS (iatSS (iatSS (iatSS (iatSS (iatSS (iatSS (iatSS (iatSS (iatSS iatZS))))))))))))))))) (by kernel_rfl) (by kernel_rfl) (by kernel_rfl) (fun _ _ _ h => h) (Or.inl ⟨by rfl, ?_⟩) (by assumption) ?_
 rotate_left
 ·intro w hSw
  try dsimp only at hSw
  go_simp
  all_goals with_reducible rfl
 try simp only [Act.put, List.setIfInBounds_toArray, List.set_cons_zero, List.set_cons_succ]
 refine wpAnyH_done (by kernel_rfl) ?_ _
 obtain ⟨E, hE⟩ : ∃ q, Hid (emp f el = q) := ⟨_, Lib.hid rfl⟩
 rw [hE.out]
 have hw2 : w.heap.size ≤ V1.drew.heap.size := Hb1.out.size
 cases E
 ·have Hfin : Hid (Q (.returned (.slice la LL lc)) w2) := Lib.hid (by
   rw [← hLL.out]
   refine HQ.out w2 la lc l (ris_or HR2.out (fun t => ?_)) (own_mono HO2.out hw2) Hb2.out
   constructor
   ·exact .inl
   ·rintro (h | ⟨h, _⟩)
    ·exact h
    ·rw [hE.out] at h; cases h)
  go_wp2_with (fail)
  first | exact Hfin.out | exact bodyPost_ret (v := .slice la LL lc) (by simp [results, Try.results74, go_sem]; try first | rfl | assumption | omega) rfl Hfin.out
 ·have x3 := HA2.out.cell 3
  have xl := HA2.out.lt
  simp only [List.getElem?_cons_zero, List.getElem?_cons_succ] at x3
  have hf2 := Hfo.out.grown Hb2.out
  have hrf : r < fs.length := by rw [hf2.len]; exact hrl
  obtain ⟨u, uo, hu⟩ := hf2.at_.row.at_ r (by rw [List.length_map]; exact hrf)
  have cu := hf2.at_.row.cell u uo hu r (by rw [List.length_map]; exact hrf)
  rw [List.getElem_map] at cu
  have Hfi := Lib.hid (hf2.at_.nms _ (List.getElem_mem hrf))
  have Hfr0 := HFr.out _ _ hf2 r hrf
  rw [HT.out] at Hfr0
  have Hfr := Lib.hid Hfr0
  clear Hfr0
  have hfm : L ≤ fc ∧ fc ≤ 9223372036854775807 := ⟨by have := hf2.at_.row.le; rw [List.length_map, hf2.len] at this; rw [← HL.out]; exact this, hf2.at_.row.max⟩
  obtain ⟨fd, hfd⟩ : ∃ q, Hid (fs[r] = q) := ⟨_, Lib.hid rfl⟩
  rw [hfd.out] at cu Hfi Hfr
  obtain ⟨fl, fla, flc⟩ := fd
  change _ = some (Value.slice fla fl.length flc) at cu
  dsimp only at Hfi Hfr
  have hblu := World.block_lt_of_cell? _ _ cu
  subst hu
  have hll : l.length ≤ 300 := ris_len101 HR2.out (fun t ht => Htn.out t (.inl ht))
  have hfl : fl.length ≤ 300 := ris_len101 Hfr.out (fun t ht => Hfn.out t ht)
  have hlit : Vs (w2.alloc (.cells #[.slice la l.length lc, .slice fla fl.length flc] 35)) (some ⟨w2.heap.size, 0, none⟩) 2 [.slice la l.length lc, .slice fla fl.length flc] := lit_vs w2 [.slice la l.length lc, .slice fla fl.length flc] 35 (by simp)
  have hb3 : Below w2.heap.size w2 (w2.alloc (.cells #[.slice la l.length lc, .slice fla fl.length flc] 35)) := (Below.refl _ w2).alloc (Nat.le_refl _) _
  have hal : AltsI (w2.alloc (.cells #[.slice la l.length lc, .slice fla fl.length flc] 35)) (some ⟨w2.heap.size, 0, none⟩) 2 [⟨l, la, lc⟩, ⟨fl, fla, flc⟩] := ⟨hlit, fun x hx => by
   rcases List.mem_cons.1 hx with rfl | hx
   ·exact (OwnKZ.vs HO2.out).grown hb3
   ·rw [List.mem_singleton] at hx
    subst hx
    exact Hfi.out.grown hb3⟩
  have hfe : flatI [⟨l, la, lc⟩, ⟨fl, fla, flc⟩] = l ++ fl := by simp [flatI]
  have Hcc := Lib.hid (concat10_any [⟨l, la, lc⟩, ⟨fl, fla, flc⟩] (some ⟨w2.heap.size, 0, none⟩) 2 _ hal (by rw [hfe, List.length_append]; omega))
  rw [hfe] at Hcc
  have Hb3 := Lib.hid (Hb2.out.trans (hb3.mono Hb2.out.size))
  obtain ⟨FLn, hFLn⟩ : ∃ q, Hid (fl.length = q) := ⟨_, Lib.hid rfl⟩
  rw [hLL.out, hFLn.out] at Hcc Hb3
  rw [hFLn.out] at cu
  have hlen2 : (l ++ fl).length ≤ 1000000 := by rw [List.length_append]; omega
  have Hl2 := Lib.hid hlen2
  obtain ⟨CL, hCL⟩ : ∃ q, Hid ((l ++ fl).length = q) := ⟨_, Lib.hid rfl⟩
  rw [hCL.out] at Hcc
  clear hf2 hlit hb3 hal hfe hll hfl hlen2 HS2
  go_wp2_with (fail)
  refine Hcc.out.mono ?_
  rintro e9 w4 ⟨ca, cc, rfl, ho4, hb4⟩
  have Hb4 := Lib.hid (Hb3.out.trans (hb4.mono Hb3.out.size))
  have hw4 : w.heap.size ≤ w4.heap.size := Hb4.out.size
  have ho4b : OwnKZ w4 w.heap.size ca cc (l ++ fl) := own_mono ho4 Hb3.out.size
  have Hso := Lib.hid (sort10_any (l ++ fl) ca cc w.heap.size w4 ho4b Hl2.out)
  rw [hCL.out] at Hso
  clear x3 xl cu hblu ho4 hb4 ho4b Hcc Hb3
  go_wp2_with (fail)
  refine Hso.out.mono ?_
  rintro e9 w5 ⟨rfl, ho5, hb5⟩
  have Hb5 := Lib.hid (Hb4.out.trans (hb5 hw4))
  have hw5 : w.heap.size ≤ w5.heap.size := Hb5.out.size
  have Hco := Lib.hid (compact10_any _ ca cc w.heap.size w5 ho5 (by rw [List.length_mergeSort]; exact Hl2.out))
  rw [List.length_mergeSort, hCL.out] at Hco
  clear ho5 hb5 Hso
  go_wp2_with (fail)
  refine Hco.out.mono ?_
  rintro e9 w6 ⟨rfl, ho6, hb6⟩
  have Hb6 := Lib.hid (Hb5.out.trans (hb6 hw5))
  have Hfin : Hid (Q (.returned (.slice ca (Lib.compact ((l ++ fl).mergeSort (fun x y => decide (x ≤ y)))).length cc)) w6) := Lib.hid (by
   refine HQ.out w6 ca cc _ (ris_or (compact_ris (sort_le _)) (fun t => ?_)) ho6 Hb6.out
   rw [(List.mergeSort_perm (l ++ fl) _).mem_iff, List.mem_append, HR2.out.mem, Hfr.out.mem]
   constructor
   ·rintro (h | h)
    ·exact .inl h
    ·exact .inr ⟨hE.out, h⟩
   ·rintro (h | ⟨_, h⟩)
    ·exact .inl h
    ·exact .inr h)
  clear ho6 hb6 Hco
  go_wp2_with (fail)
  first | exact Hfin.out | exact bodyPost_ret (v := .slice ca (Lib.compact ((l ++ fl).mergeSort (fun x y => decide (x ≤ y)))).length cc) (by simp [results, Try.results74, go_sem]; try first | rfl | assumption | omega) rfl Hfin.out
end Go.Proofs.Ytldmgifphkpdlaa
namespace Go.Proofs.Ytldmgifphkpdlaa
open Go.RowKit Go.Maps
attribute [local go_sem] Oper.semAt_some
/-- The block of a list's own row. -/
abbrev ownB (e : IltD) : Option Nat := (Value.slice e.a e.l.length e.c).ownBlock
theorem own_heap {W : World} {base e n : Nat} {v : Value} {xs : List Value} (h : W.ownsRow base e 1 v n xs) {k : Nat} (hk : v.ownBlock = some k) : ∃ cur, W.heap[k]? = some (.cells cur e (0, 0)) := by
 rcases h.2 with ⟨e1, _⟩ | ⟨g, cp, cur, e1, hb, hk2, _⟩
 ·rw [e1] at hk; cases hk
 ·rw [e1] at hk
  have : g = k := Option.some.inj hk
  subst this
  exact ⟨cur, hk2⟩
/-- A row of lists of its own, each of them in a row of its own, all apart. -/
structure TkA (W : World) (base g L : Nat) (es : List IltD) : Prop where
 own : W.ownsRow base 35 1 (.slice (some ⟨g, 0, none⟩) L L) L (es.map IltD.v)
 len : es.length = L
 ins : ∀ e ∈ es, OwnKZ W base e.a e.c e.l
 apart : ∀ i j (hi : i < es.length) (hj : j < es.length), i ≠ j → ∀ b, ownB es[i] = some b → ownB es[j] ≠ some b
theorem TkA.heap {W : World} {base g L : Nat} {es : List IltD} (h : TkA W base g L es) : ∃ cur, W.heap[g]? = some (.cells cur 35 (0, 0)) := own_heap h.own rfl
theorem TkA.kept {W W' : World} {base g L : Nat} {es : List IltD} {row : Option Nat} (h : TkA W base g L es) (hg : W.grownBy W' row) (hr : ∀ q, row = some q → q ≠ g ∧ ∀ e ∈ es, ownB e ≠ some q) : TkA W' base g L es :=
 ⟨World.ownsRow.kept h.own hg (by
  cases row with
  | none => right; simp [Value.ownBlock]
  | some q => exact .inr (fun e => (hr q rfl).1 (Option.some.inj e).symm)), h.len, fun e he => OwnKZ.kept (h.ins e he) hg (fun q e2 => (hr q e2).2 e he), h.apart⟩
theorem TkA.below {W W' : World} {base g L : Nat} {es : List IltD} (h : TkA W base g L es) (hb : Below W.heap.size W W') : TkA W' base g L es := h.kept (below_grownBy hb none) (fun q e => by cases e)
theorem TkA.mono {W : World} {base base' g L : Nat} {es : List IltD} (h : TkA W base g L es) (hb : base' ≤ base) : TkA W base' g L es := ⟨own_mono h.own hb, h.len, fun e he => own_mono (h.ins e he) hb, h.apart⟩
theorem TkA.alts {W : World} {base g L : Nat} {es : List IltD} (h : TkA W base g L es) : AltsI W (some ⟨g, 0, none⟩) L es := ⟨own_vals h.own (by rw [List.length_map, h.len]), fun e he => OwnKZ.vs (h.ins e he)⟩
theorem TkA.lt {W : World} {base g L : Nat} {es : List IltD} (h : TkA W base g L es) : base ≤ g ∧ g < W.heap.size := World.ownsRow.lt h.own g rfl
theorem TkA.fr {W : World} {base g L : Nat} {es : List IltD} (h : TkA W base g L es) : FrA base (some ⟨g, 0, none⟩) es := ⟨fr_own h.own, fun e he => fr_own (h.ins e he)⟩
/-- A list is put longer by one, and stored again. -/
theorem TkA.push {W : World} {base g L : Nat} {es : List IltD} (h : TkA W base g L es) {t : Nat} (ht : t < es.length) (x : Int) (ty : TypeId) (hn : es[t].l.length + 1 ≤ 1000000000) (hb : base ≤ W.heap.size) :
 ∃ a' c' w2, (Builtin.append_ #[35, 35] ty #[.slice es[t].a es[t].l.length es[t].c, .slice (some ⟨W.heap.size, 0, none⟩) 1 1]).run Try.prog (W.alloc (.cells #[.int .i64 x] 3)) = .ok (.slice a' (es[t].l.length + 1) c') w2 ∧
  w2.cell? ⟨g, t, none⟩ = some (.slice es[t].a es[t].l.length es[t].c) ∧ w2.frozen? ⟨g, t, none⟩ = false ∧ g < w2.heap.size ∧ TkA (w2.setCell ⟨g, t, none⟩ (.slice a' (es[t].l.length + 1) c')) base g L (es.set t ⟨es[t].l ++ [x], a', c'⟩) ∧
  W.grownBy w2 (ownB es[t]) ∧ (∀ q, ownB ⟨es[t].l ++ [x], a', c'⟩ = some q → ownB es[t] = some q ∨ W.heap.size ≤ q) ∧ (∃ cur, w2.heap[g]? = some (.cells cur 35 (0, 0))) := by
 obtain ⟨a', c', w2, hrun, ho, hg, hw⟩ := OwnKZ.push (h.ins _ (List.getElem_mem ht)) x ty hn hb
 have hty : ∀ q, ownB es[t] = some q → ∃ cur t' fr, W.heap[q]? = some (.cells cur t' fr) ∧ 35 ≠ t' := fun q hq => by
  obtain ⟨cur, hc⟩ := own_heap (h.ins _ (List.getElem_mem ht)) hq
  exact ⟨cur, _, _, hc, by decide⟩
 have hown := own_kept_ty h.own hg hty
 have hlt := World.ownsRow.lt hown g rfl
 obtain ⟨cur2, hcur2⟩ := own_heap hown (k := g) rfl
 have hgs : w2.grownBy (w2.setCell ⟨g, t, none⟩ (.slice a' (es[t].l.length + 1) c')) (some g) := grownBy_set w2 _ _ _
 have hty2 : ∀ q, (some g : Option Nat) = some q → ∃ cur t' fr, w2.heap[q]? = some (.cells cur t' fr) ∧ 3 ≠ t' := fun q hq => by
  obtain rfl := Option.some.inj hq
  exact ⟨cur2, _, _, hcur2, by decide⟩
 refine ⟨a', c', w2, hrun, ?_, own_frz hown, hlt.2, ⟨?_, by rw [List.length_set]; exact h.len, fun e he => ?_, fun i j hi hj hij b hbi => ?_⟩, hg, fun q hq => hw q hq, ⟨cur2, hcur2⟩⟩
 ·have := hown.cellAt t (by rw [Nat.mul_one, ← h.len]; exact ht)
  rw [this, List.getElem?_map, List.getElem?_eq_getElem ht]
  rfl
 ·have := (hown.stored t (.slice a' (es[t].l.length + 1) c')).1
  rw [List.map_set]
  have e2 : IltD.v ⟨es[t].l ++ [x], a', c'⟩ = .slice a' (es[t].l.length + 1) c' := by simp [IltD.v]
  rw [e2]
  exact this
 ·obtain ⟨i, hi, rfl⟩ := List.getElem_of_mem he
  rw [List.length_set] at hi
  by_cases hit : i = t
  ·subst hit
   rw [List.getElem_set_self]
   exact own_kept_ty ho hgs hty2
  ·rw [List.getElem_set_ne (fun e => hit e.symm)]
   refine own_kept_ty (OwnKZ.kept (h.ins _ (List.getElem_mem hi)) hg (fun q hq e => ?_)) hgs hty2
   exact h.apart t i ht hi (fun e => hit e.symm) q hq e
 ·have hi2 : i < es.length := by simpa using hi
  have hj2 : j < es.length := by simpa using hj
  have hold : ∀ k (hk : k < es.length) b, ownB es[k] = some b → b < W.heap.size := fun k hk b e => (World.ownsRow.lt (h.ins _ (List.getElem_mem hk)) b e).2
  by_cases hit : i = t
  ·subst hit
   rw [List.getElem_set_self] at hbi
   rw [List.getElem_set_ne hij]
   rcases hw b hbi with h1 | h1
   ·exact h.apart i j hi2 hj2 hij b h1
   ·intro e
    have := hold j hj2 b e
    omega
  ·rw [List.getElem_set_ne (fun e => hit e.symm)] at hbi
   by_cases hjt : j = t
   ·subst hjt
    rw [List.getElem_set_self]
    intro e
    rcases hw b e with h1 | h1
    ·exact h.apart i j hi2 hj2 hij b hbi h1
    ·have := hold i hi2 b hbi
     omega
   ·rw [List.getElem_set_ne (fun e => hjt e.symm)]
    exact h.apart i j hi2 hj2 hij b hbi
/-- Those of the first alternatives that are taken at a token. -/
def tkL (p : Int → Nat → Bool) (j t : Nat) : List Int := ((List.range j).filter (p (t : Int))).map (fun k : Nat => (k : Int))
theorem tkL_snoc (p : Int → Nat → Bool) (j t : Nat) : tkL p (j + 1) t = tkL p j t ++ (if p (t : Int) j = true then [(j : Int)] else []) := by
 unfold tkL
 rw [List.range_succ, List.filter_append, List.map_append]
 congr 1
 by_cases h : p (t : Int) j = true <;> simp [h]
theorem tkL_len (p : Int → Nat → Bool) (j t : Nat) : (tkL p j t).length ≤ j := by
 unfold tkL
 rw [List.length_map]
 have := List.length_filter_le (p (t : Int)) (List.range j)
 rwa [List.length_range] at this
def TkrQ (w : World) (T : Nat) (q : Nat → List Int) (e : Ending) (W' : World) : Prop := ∃ g es, e = .returned (.slice (some ⟨g, 0, none⟩) (T + 1) (T + 1)) ∧ TkA W' w.heap.size g (T + 1) es ∧ (∀ t, t < T + 1 → rowL es t = q t) ∧ Below w.heap.size w W'
set_option maxRecDepth 100000 in
set_option maxHeartbeats 16000000 in
theorem takers_any (d : CfD) (fa : Option Addr) (fc : Nat) (fs : List IltD) (r : Nat) (w : World) (hd : CfAt w d) (hf : FitC d) (hfo : FolAt w d fa fc fs) (hrl : r < d.alts.length) :
 Calls Try.prog 76 #[guV d fa fc, .int .i64 (r : Int)] w (TkrQ w d.toks.length (tkL (takB (d.alts.map IrD.p) (nulB (d.alts.map IrD.p)) d.toks.length r) (d.alts[r]).ds.length)) := by
 have hr60 := hf.r
 have ht60 := hf.t
 have hd30 := hf.a _ (List.getElem_mem hrl)
 have hst : (d.alts.map IrD.p).getD r [] = (d.alts[r]).ds.map (fun x => x.l) := by
  rw [List.getD_eq_getElem?_getD, List.getElem?_map, List.getElem?_eq_getElem hrl]
  rfl
 obtain ⟨p9, hp9⟩ : ∃ q, Hid (takB (d.alts.map IrD.p) (nulB (d.alts.map IrD.p)) d.toks.length r = q) := ⟨_, Lib.hid rfl⟩
 have Hp9 : Hid (∀ t j, p9 t j = true → 0 ≤ t ∧ t ≤ d.toks.length) := Lib.hid (fun t j h => by
  rw [← hp9.out, takB_iff] at h
  obtain ⟨a, ha, h⟩ := h
  rw [hst, List.getElem?_map] at ha
  obtain ⟨x, hx, rfl⟩ := Option.map_eq_some_iff.1 ha
  exact tak_le hf (hf.l _ (List.getElem_mem hrl) x (List.mem_of_getElem? hx)).2 h)
 have Htk : Hid (∀ j, j < (d.alts[r]).ds.length → ∀ W, Below w.heap.size w W → Calls Try.prog 74 #[guV d fa fc, .int .i64 (r : Int), .int .i64 (j : Int)] W (RisQ W (fun t => p9 t j = true))) := Lib.hid (fun j hj W hb => by
  refine (takenAt_any d fa fc fs r j W (hd.grown hb) hf (hfo.grown hb) hrl hj).mono ?_
  rintro e W' ⟨a, c, l, h1, h2, h3⟩
  refine ⟨a, c, l, h1, ris_or h2 (fun t => ?_), h3⟩
  rw [← hp9.out]
  exact (takB_at (by rw [hst, List.getElem?_map, List.getElem?_eq_getElem hj]; rfl)).symm)
 rw [hp9.out]
 have hal := hd.rules _ (List.getElem_mem hrl)
 obtain ⟨e, he⟩ : ∃ v, Hid (d.alts[r] = v) := ⟨_, Lib.hid rfl⟩
 rw [he.out] at hd30 hst Htk hal ⊢
 obtain ⟨ed, ea, ec⟩ := e
 dsimp only at hd30 hst Htk hal ⊢
 obtain ⟨xt, xta, xtc, xn, xna, xnc, xa, xaa, xac⟩ := d
 obtain ⟨hx1, hx2, hx3, hx4⟩ := hd
 dsimp only [CfD.v, guV] at *
 have hxm : xa.length ≤ xac ∧ xac ≤ 9223372036854775807 := ⟨by have := hx3.le; rwa [List.length_map] at this, hx3.max⟩
 have htm : xt.length ≤ xtc ∧ xtc ≤ 9223372036854775807 := ⟨by have := hx1.le; rwa [List.length_map] at this, hx1.max⟩
 have hdm : ed.length ≤ ec ∧ ec ≤ 9223372036854775807 := ⟨by have := hal.row.le; rwa [List.length_map] at this, hal.row.max⟩
 have HX3 := Lib.hid hx3
 have hrx : r < xa.length := hrl
 obtain ⟨p, po, hp⟩ := hx3.at_ r (by rw [List.length_map]; exact hrx)
 obtain ⟨M, hM⟩ : ∃ q, Hid (ed.length = q) := ⟨_, Lib.hid rfl⟩
 obtain ⟨Q, hQ⟩ : ∃ Q : Ending → World → Prop, Hid (TkrQ w xt.length (tkL p9 ed.length) = Q) := ⟨_, Lib.hid rfl⟩
 rw [hQ.out]
 have cp := hx3.cell p po hp r (by rw [List.length_map]; exact hrx)
 rw [List.getElem_map, he.out] at cp
 change _ = some (Value.slice ea ed.length ec) at cp
 have hb1 : Below w.heap.size w (w.alloc (.cells #[.slice xta xt.length xtc, .slice xna xn.length xnc, .slice xaa xa.length xac, .slice fa xa.length fc] 95)) := (Below.refl _ w).alloc (Nat.le_refl _) _
 have hA := Blk.new w 95 #[.slice xta xt.length xtc, .slice xna xn.length xnc, .slice xaa xa.length xac, .slice fa xa.length fc]
 obtain ⟨T, HT⟩ : ∃ q, Hid (xt.length = q) := ⟨_, Lib.hid rfl⟩
 obtain ⟨N, HN⟩ : ∃ q, Hid (xn.length = q) := ⟨_, Lib.hid rfl⟩
 obtain ⟨L, HL⟩ : ∃ q, Hid (xa.length = q) := ⟨_, Lib.hid rfl⟩
 rw [HT.out, HN.out, HL.out] at hA hb1
 rw [HT.out, HN.out, HL.out]
 have x0 := hA.cell 0
 have x1 := hA.cell 1
 have x2 := hA.cell 2
 have x3 := hA.cell 3
 have xl := hA.lt
 simp only [List.getElem?_cons_zero, List.getElem?_cons_succ] at x0 x1 x2 x3
 have HA := Lib.hid hA
 have Hb1 := Lib.hid hb1
 rw [HL.out] at hxm hr60 hrx
 rw [HT.out] at htm ht60 hQ Hp9
 rw [hM.out] at hdm hd30 Htk cp hQ
 rw [HT.out, HN.out, HL.out] at Htk
 have HQ := Lib.hid hQ.out
 have Hcp := Lib.hid cp
 have hrI : (r : Int) < (L : Int) := by omega
 have hrI0 : (0 : Int) ≤ (r : Int) := by omega
 obtain ⟨iO, hiO, hzO, hsO, hbO⟩ := info_parts info_rowI
 have hsz : (w.alloc (.cells #[.slice xta T xtc, .slice xna N xnc, .slice xaa L xac, .slice fa L fc] 95)).heap.size = w.heap.size + 1 := by simp
 have Hmk := Lib.hid (fun (W : World) (hW : w.heap.size + 1 ≤ W.heap.size) => run_makeSlice_full (P := Try.prog) (w := W) (w.heap.size + 1) 32 35 iO (.slice none 0 0) 1 Try.underlying32 hiO hzO hsO .i64 .i64 (T + 1) (by omega) (by rw [hbO]; omega) (by unfold maxLen; omega) hW)
 subst hp
 clear hA hb1 hfo hx1 hx2 hx3 hx4 hiO hzO hsO hbO hst hQ hal cp
 have hw1 : IntKind.i64.wrap ((T : Int) + 1) = ((T + 1 : Nat) : Int) := by rw [show (T : Int) + 1 = ((T + 1 : Nat) : Int) by omega]; exact IntWalk.i64_in _ (by omega)
 go_enter Try.func76, Try.ntmps76
 go_wp2_with (fail)
 obtain ⟨bx, hbx⟩ : ∃ q, Hid (w.heap.size = q) := ⟨_, Lib.hid rfl⟩
 rw [hbx.out] at HA x0 x1 x2 x3 xl Hmk hsz ⊢
 obtain ⟨base, hbase⟩ : ∃ q, Hid (bx + 1 = q) := ⟨_, Lib.hid rfl⟩
 have hbb : bx < base := by rw [← hbase.out]; exact Nat.lt_succ_self _
 have hwb : w.heap.size ≤ base := by rw [hbx.out]; omega
 rw [hbase.out] at Hmk hsz
 generalize hV : World.alloc w _ = V1 at HA x0 x1 x2 x3 xl Hb1 hsz ⊢
 clear hV
 obtain ⟨w2, hrun2, ho2, hg2⟩ := Hmk.out V1 (Nat.le_of_eq hsz.symm)
 rw [made_fill _ rfl] at ho2
 rw [hsz] at hrun2 ho2
 rw [show ((T + 1 : Nat) : Int) = (T : Int) + 1 by omega] at hrun2
 have hb12 := belowAt hg2 (B := base) (fun i e => by cases e) (Nat.le_of_eq hsz.symm)
 have HB2 := Lib.hid hb12
 have HA2 := Lib.hid (HA.out.below hb12 hbb)
 have HT2 : Hid (TkA w2 base base (T + 1) (List.replicate (T + 1) ⟨[], none, 0⟩)) := Lib.hid ⟨by rw [List.map_replicate]; exact ho2, List.length_replicate .., fun e he => by rw [List.mem_replicate] at he; rw [he.2]; exact OwnKZ.nil _ _, fun i j hi hj hij b h => by rw [List.getElem_replicate] at h; cases h⟩
 have HR2 : Hid (∀ t, t < T + 1 → rowL (List.replicate (T + 1) (⟨[], none, 0⟩ : IltD)) t = tkL p9 0 t) := Lib.hid (fun t ht => by rw [rowL_at (by rw [List.length_replicate]; exact ht)]; simp [tkL])
 have y2 := HA2.out.cell 2
 have yl := HA2.out.lt
 simp only [List.getElem?_cons_zero, List.getElem?_cons_succ] at y2
 have cp2 := HB2.out.cell (p := ⟨p, po + r, none⟩) (by have h9 : p < w.heap.size := World.block_lt_of_cell? _ _ Hcp.out; show p < base; omega)
 have cp1 := Hb1.out.cell (p := ⟨p, po + r, none⟩) (World.block_lt_of_cell? _ _ Hcp.out)
 have cp := cp2.trans (cp1.trans Hcp.out)
 have hblp := World.block_lt_of_cell? _ _ cp
 clear ho2 hg2 hb12 cp1 cp2 x1 x3 Hmk
 go_wp2_with (fail)
 clear x0 x2 xl hrun2 y2 yl cp hblp
 obtain ⟨g, hg9⟩ : ∃ q, Hid (base = q) := ⟨_, Lib.hid rfl⟩
 have HT2 : Hid (TkA w2 base g (T + 1) (List.replicate (T + 1) ⟨[], none, 0⟩)) := Lib.hid (by rw [← hg9.out]; exact HT2.out)
 have hTg : (Value.slice (some ⟨base, 0, none⟩) (T + 1) (T + 1)) = Value.slice (some ⟨g, 0, none⟩) (T + 1) (T + 1) := by rw [hg9.out]
 rw [hTg]
 clear hTg
 go_loopw [22] (fun iv wr => ∃ (j : Nat) (es : List IltD), j ≤ M ∧ iv = .int .i64 (j : Int) ∧ Hid (TkA wr base g (T + 1) es) ∧ Hid (∀ t, t < T + 1 → rowL es t = tkL p9 j t) ∧ Below base V1 wr) (fun iv _ => M - (RowKit.intOf iv).toNat)
 case atStart => exact ⟨0, _, Nat.zero_le _, rfl, HT2, HR2, HB2.out⟩
 case round =>
  clear HT2 HR2 HB2 HA2
  obtain ⟨j, es, hj, rfl, HE, HR, hbr⟩ := hrel
  obtain ⟨U, rfl⟩ : ∃ U, U = wr := ⟨_, rfl⟩
  have Hbw := Lib.hid (Hb1.out.trans (hbr.mono (by have := Hb1.out.size; omega)))
  by_cases hlt : j < M
  ·have hjI : (j : Int) < (M : Int) := by omega
   have hjI0 : (0 : Int) ≤ (j : Int) := by omega
   have HAu := Lib.hid (HA.out.below hbr hbb)
   have y0 := HAu.out.cell 0
   have y1 := HAu.out.cell 1
   have y2 := HAu.out.cell 2
   have y3 := HAu.out.cell 3
   have yl := HAu.out.lt
   simp only [List.getElem?_cons_zero, List.getElem?_cons_succ] at y0 y1 y2 y3
   have Hc := Lib.hid (Htk.out j hlt U Hbw.out)
   go_wp2_with (fail)
   refine Hc.out.mono ?_
   rintro e5 w5 ⟨la, lc, l, rfl, hr5, ho5, hb5⟩
   have Hr5 := Lib.hid hr5
   have hlm := OwnKZ.le ho5
   have HE5 := Lib.hid (HE.out.below hb5)
   have HO5 := Lib.hid ho5
   have hbn : base ≤ U.heap.size := by have := hbr.size; have := hsz; omega
   have Hb5 := Lib.hid (hbr.trans (hb5.mono hbn))
   have Hap5 : Hid (∀ e ∈ es, ∀ b, ownB e = some b → (Value.slice la l.length lc).ownBlock ≠ some b) := Lib.hid (fun e he b h1 h2 => by
    have h3 := (World.ownsRow.lt (HE.out.ins e he) b h1).2
    have h4 := (World.ownsRow.lt ho5 b h2).1
    omega)
   have HR5 : Hid (∀ t, t < T + 1 → rowL es t = tkL p9 j t ++ (if (t : Int) ∈ l.take 0 then [(j : Int)] else [])) := Lib.hid (fun t ht => by rw [HR.out t ht]; simp)
   obtain ⟨X, hX⟩ : ∃ q, Hid (l.length = q) := ⟨_, Lib.hid rfl⟩
   rw [hX.out] at hlm ⊢
   clear y0 y1 y2 y3 yl hr5 ho5 hb5 HE HR Hc HAu hbr Hbw
   go_wp2_with (fail)
   go_loopw [30] (fun iv wr => ∃ (i : Nat) (es2 : List IltD), i ≤ X ∧ iv = .int .i64 (i : Int) ∧ Hid (TkA wr base g (T + 1) es2) ∧ Hid (∀ t, t < T + 1 → rowL es2 t = tkL p9 j t ++ (if (t : Int) ∈ l.take i then [(j : Int)] else [])) ∧ Hid (OwnKZ wr U.heap.size la lc l) ∧ Hid (∀ e ∈ es2, ∀ b, ownB e = some b → (Value.slice la l.length lc).ownBlock ≠ some b) ∧ Below base V1 wr) (fun iv _ => X - (RowKit.intOf iv).toNat)
   case atStart => exact ⟨0, es, Nat.zero_le _, rfl, HE5, HR5, HO5, Hap5, Hb5.out⟩
   case round =>
    clear HE5 HR5 HO5 Hap5 Hb5
    obtain ⟨i, es2, hi, rfl, HE, HR, HO, Hap, hbr⟩ := hrel
    obtain ⟨U3, rfl⟩ : ∃ U, U = wr := ⟨_, rfl⟩
    by_cases hlti : i < X
    ·have hiI : (i : Int) < (X : Int) := by omega
     have hiI0 : (0 : Int) ≤ (i : Int) := by omega
     have hil : i < l.length := by rw [hX.out]; exact hlti
     obtain ⟨bl, hla, hbl1, hbl2, cl⟩ := OwnKZ.at HO.out i hil
     have hmem := (Hr5.out.mem _).1 (List.getElem_mem hil)
     have hupl := Hr5.out.up
     have hrng := Hp9.out _ _ hmem
     have hnot : l[i] ∉ l.take i := fun hm => by
      obtain ⟨k, hk, hk2⟩ := List.mem_iff_getElem.1 hm
      rw [List.length_take] at hk
      rw [List.getElem_take] at hk2
      have := List.pairwise_iff_getElem.1 hupl k i (by omega) hil (by omega)
      omega
     have htk : l.take (i + 1) = l.take i ++ [l[i]] := by rw [List.take_add_one, List.getElem?_eq_getElem hil]; rfl
     obtain ⟨t, ht⟩ : ∃ t : Nat, Hid (l[i] = (t : Int)) := ⟨(l[i]).toNat, Lib.hid (by omega)⟩
     rw [ht.out] at cl hnot htk hrng
     have htT : t < T + 1 := by omega
     have hte : t < es2.length := by rw [HE.out.len]; exact htT
     have hrow := HR.out t htT
     rw [if_neg hnot, List.append_nil] at hrow
     have hlen : es2[t].l.length ≤ 30 := by rw [← rowL_at hte, hrow]; have := tkL_len p9 j t; omega
     have hbn : base ≤ U3.heap.size := by have := hbr.size; have := hsz; omega
     obtain ⟨a2, c2, w6, hrun, z0, zf, zl, hE, hgr, hfr, hcu⟩ := HE.out.push hte (j : Int) 35 (by omega) hbn
     have c0 := HE.out.alts.row.cell g 0 rfl t (by rw [List.length_map]; exact hte)
     rw [List.getElem_map, Nat.zero_add] at c0
     have hgl := HE.out.lt
     have hrow2 : ∀ s, s < T + 1 → rowL (es2.set t ⟨es2[t].l ++ [(j : Int)], a2, c2⟩) s = tkL p9 j s ++ (if (s : Int) ∈ l.take (i + 1) then [(j : Int)] else []) := fun s hs => by
      rw [rowL_set _ hte, htk]
      by_cases e : s = t
      ·subst e
       rw [if_pos rfl, if_pos (by simp), ← hrow, rowL_at hte]
      ·rw [if_neg e, HR.out s hs]
       congr 1
       have e2 : ((s : Int) ∈ l.take i ++ [(t : Int)]) ↔ (s : Int) ∈ l.take i := by
        rw [List.mem_append]
        constructor
        ·rintro (h | h)
         ·exact h
         ·rw [List.mem_singleton] at h; omega
        ·exact .inl
       by_cases e3 : (s : Int) ∈ l.take i
       ·rw [if_pos e3, if_pos (e2.2 e3)]
       ·rw [if_neg e3, if_neg (fun h => e3 (e2.1 h))]
     have hme := List.getElem_mem hte
     have hO6 : OwnKZ w6 U.heap.size la lc l := OwnKZ.kept HO.out hgr (fun q hq => Hap.out _ hme q hq)
     have hO7 : OwnKZ (w6.setCell ⟨g, t, none⟩ (.slice a2 (es2[t].l.length + 1) c2)) U.heap.size la lc l := own_kept_ty hO6 (grownBy_set w6 _ _ _) (fun q hq => by
      obtain rfl := Option.some.inj hq
      obtain ⟨cur, hc⟩ := hcu
      exact ⟨cur, _, _, hc, by decide⟩)
     have hap7 : ∀ e ∈ es2.set t ⟨es2[t].l ++ [(j : Int)], a2, c2⟩, ∀ b, ownB e = some b → (Value.slice la l.length lc).ownBlock ≠ some b := fun e he b h1 h2 => by
      rcases List.mem_or_eq_of_mem_set he with he | rfl
      ·exact Hap.out e he b h1 h2
      ·rcases hfr b h1 with h3 | h3
       ·exact Hap.out _ hme b h3 h2
       ·have := (World.ownsRow.lt HO.out b h2).2
        omega
     have hb6 : Below base V1 w6 := hbr.trans (belowAt hgr (fun q hq => (World.ownsRow.lt (HE.out.ins _ hme) q hq).1) hbn)
     have hb7 : Below base V1 (w6.setCell ⟨g, t, none⟩ (.slice a2 (es2[t].l.length + 1) c2)) := hb6.setCell (p := ⟨g, t, none⟩) (by show base ≤ g; rw [hg9.out]; exact Nat.le_refl _) _
     obtain ⟨ev, hev⟩ : ∃ v, Hid (es2[t] = v) := ⟨_, Lib.hid rfl⟩
     rw [hev.out] at hrun z0 hE hO7 hb7 hrow2 hap7 c0 hlen
     obtain ⟨evl, eva, evc⟩ := ev
     dsimp only at hrun z0 hE hO7 hb7 hrow2 hap7 hlen
     change _ = some (Value.slice eva evl.length evc) at c0
     obtain ⟨W7, hW7⟩ : ∃ q, Hid (w6.setCell ⟨g, t, none⟩ (.slice a2 (evl.length + 1) c2) = q) := ⟨_, Lib.hid rfl⟩
     rw [hW7.out] at hE hO7 hb7
     have HE7 := Lib.hid hE
     have HO7 := Lib.hid hO7
     have HR7 := Lib.hid hrow2
     have HP7 := Lib.hid hap7
     have HB7 := Lib.hid hb7
     obtain ⟨EV, hEV⟩ : ∃ q, Hid (evl.length = q) := ⟨_, Lib.hid rfl⟩
     rw [hEV.out] at hrun z0 c0 hlen hW7
     have Hrun := Lib.hid hrun
     have htI : (t : Int) < ((T + 1 : Nat) : Int) := by omega
     have htI0 : (0 : Int) ≤ (t : Int) := by omega
     subst hla
     clear hrun hgr hfr hcu hO6 hO7 hE hap7 hb6 hb7 hrow hrow2 hmem hupl hnot htk hrng hbl1 hme
     go_wp2_with (at_builtin; refine wpList_append_run rfl _ _ 35 35 rfl _ _ _ _ rfl rfl Hrun.out ?_)
     rw [hW7.out]
     exact ⟨⟨i + 1, _, by omega, by go_num, HE7, HR7, HO7, HP7, HB7.out⟩, by simp [RowKit.intOf]; omega⟩
    ·have hie : i = X := by omega
     have hiI : ¬ (i : Int) < (X : Int) := by omega
     have HR7 : Hid (∀ t, t < T + 1 → rowL es2 t = tkL p9 (j + 1) t) := Lib.hid (fun t ht => by
      rw [HR.out t ht, tkL_snoc, hie, ← hX.out, List.take_length]
      congr 1
      by_cases e : (t : Int) ∈ l
      ·rw [if_pos e, if_pos ((Hr5.out.mem _).1 e)]
      ·rw [if_neg e, if_neg (fun h => e ((Hr5.out.mem _).2 h))])
     clear hie
     go_wp2_with (fail)
     exact ⟨⟨j + 1, es2, by omega, by go_num, HE, HR7, hbr⟩, by simp [RowKit.intOf]; omega⟩
  ·have hje : j = M := by omega
   have hjI : ¬ (j : Int) < (M : Int) := by omega
   have Hfin : Hid (Q (.returned (.slice (some ⟨g, 0, none⟩) (T + 1) (T + 1))) U) := Lib.hid (by
    rw [← HQ.out]
    exact ⟨g, es, rfl, HE.out.mono hwb, fun t ht => by rw [HR.out t ht, hje], Hbw.out⟩)
   clear hje
   go_wp2_with (fail)
   first | exact Hfin.out | exact bodyPost_ret (v := .slice (some ⟨g, 0, none⟩) (T + 1) (T + 1)) (by simp [results, Try.results76, go_sem]; try first | rfl | assumption | omega) rfl Hfin.out
end Go.Proofs.Ytldmgifphkpdlaa
