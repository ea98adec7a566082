/- The row TableRows in its second form: for every grammar by numbers whose reading is of bulk at most 1048576: the law answers true and changes nothing that was there. -/
/- Texts joined: Qu Kk PTr. -/
import Derived.Test.YtldmgifphkpdlaaRUAv
import Derived.Test.YtldmgifphkpdlaaRUAi
import Derived.Test.YtldmgifphkpdlaaRUAa
set_option linter.unusedVariables false
set_option linter.unusedSimpArgs false
namespace Go.Proofs.Ytldmgifphkpdlaa
open Go.RowKit Go.Maps
attribute [local go_sem] Oper.semAt_some
theorem onlyL_iff {l : List Nat} (h : l.length ≤ 1) (i : Nat) : onlyL l = (i : Int) ↔ i ∈ l := by
 match l, h with
 | [], _ => simp [onlyL]
 | [a], _ => simp [onlyL]; omega
 | _ :: _ :: _, h => simp at h
theorem rowT_at {p : Nat → Nat → Bool} {n T k : Nat} {v : Int} (h : (rowT p n T)[k]? = some v) : k < T ∧ v = onlyL ((List.range n).filter (p k)) := by
 unfold rowT at h
 rw [List.getElem?_map, Option.map_eq_some_iff] at h
 obtain ⟨q, hq, rfl⟩ := h
 obtain ⟨h1, h2⟩ := List.getElem?_eq_some_iff.1 hq
 rw [List.length_range] at h1
 rw [List.getElem_range] at h2
 subst h2
 exact ⟨h1, rfl⟩
/-- What a table's row tells. -/
theorem rows_tell (d : CfD) (h : few10 d = true) (hc : allCl (d.alts.map IrD.p) (nulB (d.alts.map IrD.p)) d.toks.length = []) (r i : Nat) (hr : r < d.alts.length) (hi : i < ((d.alts.map IrD.p).getD r []).length) :
 (∃ t, PrdP (d.alts.map IrD.p) (nulB (d.alts.map IrD.p)) d.toks.length (r : Int) (i : Int) t) ∧ ∀ (k : Nat) v, (rowT (fun t j => takB (d.alts.map IrD.p) (nulB (d.alts.map IrD.p)) d.toks.length r (t : Int) j) ((d.alts.map IrD.p).getD r []).length (d.toks.length + 1))[k]? = some v → (v = (i : Int) ↔ PrdP (d.alts.map IrD.p) (nulB (d.alts.map IrD.p)) d.toks.length (r : Int) (i : Int) (k : Int)) := by
 have hM := few10_may h
 have hpl : (d.alts.map IrD.p).length = d.alts.length := List.length_map _
 constructor
 ·obtain ⟨t, ht⟩ := hM.tak d.toks.length r (List.getElem_mem hi)
  exact ⟨t, by omega, by omega, by rw [Int.toNat_natCast, Int.toNat_natCast, takB_at (List.getElem?_eq_getElem hi)]; exact ht⟩
 ·intro k v hv
  obtain ⟨hk, rfl⟩ := rowT_at hv
  have h1 := clS_nil.1 hc r (by rw [hpl]; exact hr) k hk
  rw [onlyL_iff h1, List.mem_filter, List.mem_range]
  unfold PrdP
  rw [Int.toNat_natCast, Int.toNat_natCast]
  constructor
  ·exact fun h => ⟨by omega, by omega, h.2⟩
  ·exact fun h => ⟨hi, h.2.2⟩
set_option maxRecDepth 100000 in
set_option maxHeartbeats 16000000 in
theorem lawRows_any (d : CfD) (w : World) (hd : CfAt w d) (h1 : ∀ t ∈ d.toks, t.size ≤ maxLen) (h2 : ∀ t ∈ d.names, t.size ≤ maxLen) (h3 : ∀ r ∈ d.alts, ∀ a ∈ r.ds, ∀ x ∈ a.l, -9223372036854775808 ≤ x ∧ x ≤ 9223372036854775807) (hs : d.toks.length + d.names.length + szC (d.alts.map IrD.p) ≤ 1000000000000) :
 Calls Try.prog 8 #[d.v] w fun e w' => e = .returned (.bool true) ∧ Below w.heap.size w w' := by
 have HF := Lib.hid (fun W (hb : Below w.heap.size w W) => few10_any d W (hd.grown hb) h1 h2 h3 hs)
 have Hsb := Lib.hid (fun (hf : FitC d) W (hb : Below w.heap.size w W) => build_any d W (hd.grown hb) hf)
 have Hsp := Lib.hid (fun (hf : FitC d) (x y : Int) (hx : -9223372036854775808 ≤ x ∧ x ≤ 9223372036854775807) (hy : -9223372036854775808 ≤ y ∧ y ≤ 9223372036854775807) W (hb : Below w.heap.size w W) => predict_any d x y W (hd.grown hb) hf hx hy)
 have Hfit : Hid (few10 d = true → FitC d) := Lib.hid few10_fit
 have Hrw := Lib.hid (rows_tell d)
 have Hnn : Hid (∀ (r : Nat) (h : r < d.alts.length), ((d.alts.map IrD.p).getD r []).length = (d.alts[r]).ds.length) := Lib.hid (fun r h => by
  rw [List.getD_eq_getElem?_getD, List.getElem?_map, List.getElem?_eq_getElem h]
  exact List.length_map _)
 have Hd := Lib.hid hd
 have Hft : Hid (FitC d → d.toks.length ≤ 60 ∧ d.alts.length ≤ 60) := Lib.hid (fun h => ⟨h.t, h.r⟩)
 have Hfm : Hid (FitC d → ∀ (r : Nat) (h : r < d.alts.length), (d.alts[r]).ds.length ≤ 30) := Lib.hid (fun h r hr => h.a _ (List.getElem_mem hr))
 have hxm : d.alts.length ≤ d.ac ∧ d.ac ≤ 9223372036854775807 := ⟨by have := hd.alts.le; rwa [List.length_map] at this, hd.alts.max⟩
 have hxt : d.toks.length ≤ d.tc ∧ d.tc ≤ 9223372036854775807 := ⟨by have := hd.toks.le; rwa [List.length_map] at this, hd.toks.max⟩
 obtain ⟨B, hB⟩ : ∃ q, Hid (few10 d = q) := ⟨_, Lib.hid rfl⟩
 rw [hB.out] at HF Hfit
 obtain ⟨xt, xta, xtc, xn, xna, xnc, xa, xaa, xac⟩ := d
 dsimp only [CfD.v] at *
 have hb1 : Below w.heap.size w (w.alloc (.cells #[.slice xta xt.length xtc, .slice xna xn.length xnc, .slice xaa xa.length xac] 25)) := (Below.refl _ w).alloc (Nat.le_refl _) _
 have hA := Blk.new w 25 #[.slice xta xt.length xtc, .slice xna xn.length xnc, .slice xaa xa.length xac]
 obtain ⟨al, hal9⟩ : ∃ q, Hid (xa.map IrD.p = q) := ⟨_, Lib.hid rfl⟩
 rw [hal9.out] at Hsb Hsp Hnn Hrw
 have hpl : al.length = xa.length := by rw [← hal9.out]; exact List.length_map _
 obtain ⟨f, hf9⟩ : ∃ v, Hid (nulB al = v) := ⟨_, Lib.hid rfl⟩
 rw [hf9.out] at Hsb Hsp Hrw
 obtain ⟨CL, hCL⟩ : ∃ v, Hid (allCl al f xt.length = v) := ⟨_, Lib.hid rfl⟩
 rw [hCL.out] at Hrw
 obtain ⟨T, HT⟩ : ∃ q, Hid (xt.length = q) := ⟨_, Lib.hid rfl⟩
 obtain ⟨N, HN⟩ : ∃ q, Hid (xn.length = q) := ⟨_, Lib.hid rfl⟩
 obtain ⟨L, HL⟩ : ∃ q, Hid (xa.length = q) := ⟨_, Lib.hid rfl⟩
 rw [HT.out, HN.out, HL.out] at hA hb1 HF ⊢
 rw [HT.out, HN.out, HL.out] at Hsb
 rw [HT.out, HN.out, HL.out] at Hsp
 rw [HT.out, HL.out] at Hft
 rw [HT.out, HL.out] at Hrw
 rw [HT.out] at hCL hxt
 rw [HL.out] at hpl hxm
 have Hpl := Lib.hid hpl
 clear hpl
 obtain ⟨Fit, hFit⟩ : ∃ v, Hid (FitC ⟨xt, xta, xtc, xn, xna, xnc, xa, xaa, xac⟩ = v) := ⟨_, Lib.hid rfl⟩
 rw [hFit.out] at Hfit Hsb Hsp Hft Hfm
 have HF' : Hid (∀ W, Below w.heap.size w W → Calls Try.prog 30 #[.agg #[.slice xta T xtc, .slice xna N xnc, .slice xaa L xac]] W fun e w' => e = .returned (.bool B) ∧ Below W.heap.size W w') := HF
 have x0 := hA.cell 0
 have x1 := hA.cell 1
 have x2 := hA.cell 2
 have xl := hA.lt
 simp only [List.getElem?_cons_zero, List.getElem?_cons_succ] at x0 x1 x2
 have HA := Lib.hid hA
 have Hb1 := Lib.hid hb1
 clear hA hb1 h1 h2 h3 hs HF hd
 go_enter Try.func8, Try.ntmps8
 go_wp2_with (fail)
 obtain ⟨bx, hbx⟩ : ∃ q, Hid (w.heap.size = q) := ⟨_, Lib.hid rfl⟩
 rw [hbx.out] at HA xl x0 x1 x2 ⊢
 generalize hV : World.alloc w _ = V1 at HA x0 x1 x2 xl Hb1 ⊢
 clear hV
 refine (live10_any V1).mono ?_
 rintro e w2 ⟨rfl, hb⟩
 have HA2 := Lib.hid (HA.out.below hb HA.out.lt)
 have Hb2 := Lib.hid (Hb1.out.trans (hb.mono Hb1.out.size))
 clear x0 x1 x2 xl hb
 have x0 := HA2.out.cell 0
 have x1 := HA2.out.cell 1
 have x2 := HA2.out.cell 2
 have xl := HA2.out.lt
 simp only [List.getElem?_cons_zero, List.getElem?_cons_succ] at x0 x1 x2
 go_wp2_with (fail)
 refine (HF'.out w2 Hb2.out).mono ?_
 rintro e w3 ⟨rfl, hb⟩
 have HA3 := Lib.hid (HA2.out.below hb HA2.out.lt)
 have Hb3 := Lib.hid (Hb2.out.trans (hb.mono Hb2.out.size))
 clear x0 x1 x2 xl hb HF'
 cases B
 ·go_wp2_with (fail)
  exact bodyPost_ret (v := .bool true) (by simp [results, Try.results8, go_sem]; try first | rfl | assumption | omega) rfl ⟨rfl, Hb3.out⟩
 have hfit := Hfit.out rfl
 have Hsb2 := Lib.hid (Hsb.out hfit)
 have Hsp2 := Lib.hid (Hsp.out hfit)
 obtain ⟨hT60, hL60⟩ := Hft.out hfit
 have HMs := Lib.hid (Hfm.out hfit)
 have Hrw2 := Lib.hid (Hrw.out hB.out)
 clear Hft Hfm Hrw
 clear Hsb Hsp Hfit hfit
 have x0 := HA3.out.cell 0
 have x1 := HA3.out.cell 1
 have x2 := HA3.out.cell 2
 have xl := HA3.out.lt
 simp only [List.getElem?_cons_zero, List.getElem?_cons_succ] at x0 x1 x2
 go_wp2_with (fail)
 refine (Hsb2.out w3 Hb3.out).mono ?_
 rintro e w4 hB4
 rcases hB4 with ⟨h1, rfl, hb⟩ | ⟨h1, g, rs, rfl, hT4, hR4, hb⟩
 ·have Hb4 := Lib.hid (Hb3.out.trans (hb.mono Hb3.out.size))
  clear x0 x1 x2 xl hb h1
  go_wp2_with (fail)
  exact bodyPost_ret (v := .bool true) (by simp [results, Try.results8, go_sem]; try first | rfl | assumption | omega) rfl ⟨rfl, Hb4.out⟩
 rw [hCL.out] at h1
 have Hcl := Lib.hid h1
 rw [Hpl.out] at hT4 hR4 ⊢
 have HR4 := Lib.hid hR4
 have HT4 := Lib.hid hT4.alts
 have Hrl := Lib.hid hT4.len
 have HA4 := Lib.hid (HA3.out.below hb HA3.out.lt)
 have Hb4 := Lib.hid (Hb3.out.trans (hb.mono Hb3.out.size))
 have HD4 := Lib.hid (Hd.out.grown Hb4.out)
 clear x0 x1 x2 xl hb hT4 hR4 h1
 obtain ⟨t1, ht1⟩ : ∃ q : Option Addr, Hid (some ⟨g, 0, none⟩ = q) := ⟨_, Lib.hid rfl⟩
 rw [ht1.out] at HT4 ⊢
 have x0 := HA4.out.cell 0
 have x1 := HA4.out.cell 1
 have x2 := HA4.out.cell 2
 have xl := HA4.out.lt
 simp only [List.getElem?_cons_zero, List.getElem?_cons_succ] at x0 x1 x2
 go_wp2_with (fail)
 clear x0 x1 x2 xl
 go_loopw [38] (fun kv wr => ∃ (r : Nat), r ≤ L ∧ kv = .int .i64 (r : Int) ∧ Below w4.heap.size w4 wr) (fun kv _ => L - (RowKit.intOf kv).toNat)
 case atStart => exact ⟨0, Nat.zero_le _, rfl, Below.refl _ _⟩
 case round =>
 obtain ⟨r, hr, rfl, hbr⟩ := hrel
 obtain ⟨U, rfl⟩ : ∃ U, U = wr := ⟨_, rfl⟩
 by_cases hlt : r < L
 ·have hrI : (r : Int) < (L : Int) := by omega
  have hrI0 : (0 : Int) ≤ (r : Int) := by omega
  have hrx : r < xa.length := by rw [HL.out]; exact hlt
  have hrr : r < rs.length := by rw [Hrl.out]; exact hlt
  have HDu := Lib.hid (HD4.out.grown hbr)
  obtain ⟨p, po, hp⟩ := HDu.out.alts.at_ r (by rw [List.length_map]; exact hrx)
  have cp := HDu.out.alts.cell p po hp r (by rw [List.length_map]; exact hrx)
  rw [List.getElem_map] at cp
  have hnm := Hnn.out r hrx
  have hm30 := HMs.out r hrx
  have hme := (HDu.out.rules _ (List.getElem_mem hrx)).row
  have hme2 : (xa[r]).ds.length ≤ (xa[r]).c ∧ (xa[r]).c ≤ 9223372036854775807 := ⟨by have := hme.le; rwa [List.length_map] at this, hme.max⟩
  clear hme
  obtain ⟨e, he⟩ : ∃ v, Hid (xa[r]'hrx = v) := ⟨_, Lib.hid rfl⟩
  rw [he.out] at cp hnm hm30 hme2
  have hblp := World.block_lt_of_cell? _ _ cp
  obtain ⟨eds, ea, ec⟩ := e
  change _ = some (Value.slice ea eds.length ec) at cp
  dsimp only at hnm hm30 hme2
  obtain ⟨M, hM⟩ : ∃ q, Hid (eds.length = q) := ⟨_, Lib.hid rfl⟩
  rw [hM.out] at cp hnm hm30 hme2
  have HnM := Lib.hid hnm
  obtain ⟨q, qo, hq⟩ := HT4.out.row.at_ r (by rw [List.length_map]; exact hrr)
  have htl : (rs[r]'hrr).l = rowT (fun t j => takB al f T r (t : Int) j) (al.getD r []).length (T + 1) := by
   rw [← HR4.out r hlt, rowL_at hrr]
  have htm := (HT4.out.nms _ (List.getElem_mem hrr))
  obtain ⟨e2, he2⟩ : ∃ v, Hid (rs[r]'hrr = v) := ⟨_, Lib.hid rfl⟩
  rw [he2.out] at htl htm
  have Hrr := Lib.hid hrr
  obtain ⟨tl, ta2, tc2⟩ := e2
  dsimp only at htl htm
  have htm2 : tl.length ≤ tc2 ∧ tc2 ≤ 9223372036854775807 := ⟨by have := htm.le; rw [List.length_map] at this; exact this, htm.max⟩
  have Htl := Lib.hid htl
  have hrlT : (tl.length : Int) = (T : Int) + 1 := by rw [htl, rowT_len]; omega
  obtain ⟨RL, hRL⟩ : ∃ q, Hid (tl.length = q) := ⟨_, Lib.hid rfl⟩
  rw [hRL.out] at htm2 hrlT
  have hrlT2 : (T : Int) + 1 = (RL : Int) := hrlT.symm
  have hrl61 : (RL : Int) ≤ 61 := by omega
  have hwr : IntKind.i64.wrap (RL : Int) = (RL : Int) := IntWalk.i64_in _ (by omega)
  clear hrlT
  have HAu := Lib.hid (HA4.out.below hbr HA4.out.lt)
  have x0 := HAu.out.cell 0
  have x1 := HAu.out.cell 1
  have x2 := HAu.out.cell 2
  have xl := HAu.out.lt
  simp only [List.getElem?_cons_zero, List.getElem?_cons_succ] at x0 x1 x2
  have hd9 := (Below.refl U.heap.size U).drew
  have hbr2 := hbr.trans (hd9.mono hbr.size)
  have Hbr2 := Lib.hid hbr2
  have cq := (HT4.out.grown hbr2).row.cell q qo hq r (by rw [List.length_map]; exact hrr)
  rw [List.getElem_map, he2.out] at cq
  change _ = some (Value.slice ta2 tl.length tc2) at cq
  rw [hRL.out] at cq
  have HAv := Lib.hid (HA4.out.below hbr2 HA4.out.lt)
  have HSr : Hid (U.drew.cell? ⟨bx, 0, none⟩ = some (.slice xta T xtc) ∧ U.drew.cell? ⟨q, qo + r, none⟩ = some (.slice ta2 RL tc2)) := Lib.hid ⟨HAv.out.cell 0, cq⟩
  subst hp hq
  clear hd9 cq htl htm hnm hbr2
  go_wp2_with (fail)
  clear cp hblp x0 x1 x2 xl HAu
  refine wp_region_held_drew (S := fun w' => w'.cell? ⟨bx, 0, none⟩ = some (.slice xta T xtc) ∧ w'.cell? ⟨q, qo + r, none⟩ = some (.slice ta2 RL tc2)) (by kernel_rfl) ?_ (fun hHeld => ?_)
  ·exact HSr.out
  refine wpAnyH_take (i := 0) (v := ?_) (iatLS iatZS) (by kernel_rfl) (by kernel_rfl) (by kernel_rfl) (fun _ _ _ h => h) (Or.inl ⟨by rfl, ?_⟩) (by assumption) ?_
  rotate_left
  ·intro w hSw
   try dsimp only at hSw
   go_simp
   all_goals with_reducible rfl
  try simp only [Act.put, List.setIfInBounds_toArray, List.set_cons_zero, List.set_cons_succ]
  refine wpAnyH_take (i := 1) (v := ?_) (iatLS (iatSS iatZS)) (by kernel_rfl) (by kernel_rfl) (by kernel_rfl) (fun _ _ _ h => h) (Or.inl ⟨by rfl, ?_⟩) (by assumption) ?_
  rotate_left
  ·intro w hSw
   try dsimp only at hSw
   go_simp
   all_goals with_reducible rfl
  try simp only [Act.put, List.setIfInBounds_toArray, List.set_cons_zero, List.set_cons_succ]
  refine wpAnyH_take (i := 2) (v := ?_) (iatLS (iatSS (iatSS iatZS))) (by kernel_rfl) (by kernel_rfl) (by kernel_rfl) (fun _ _ _ h => h) (Or.inl ⟨by rfl, ?_⟩) (by assumption) ?_
  rotate_left
  ·intro w hSw
   try dsimp only at hSw
   go_simp
   all_goals with_reducible rfl
  try simp only [Act.put, List.setIfInBounds_toArray, List.set_cons_zero, List.set_cons_succ]
  refine wpAnyH_take (i := 3) (v := ?_) (iatLS (iatSS (iatSS (iatSS iatZS)))) (by kernel_rfl) (by kernel_rfl) (by kernel_rfl) (fun _ _ _ h => h) (Or.inl ⟨by rfl, ?_⟩) (by assumption) ?_
  rotate_left
  ·intro w hSw
   try dsimp only at hSw
   go_simp
   all_goals with_reducible rfl
  try simp only [Act.put, List.setIfInBounds_toArray, List.set_cons_zero, List.set_cons_succ]
  refine wpAnyH_take (i := 4) (v := ?_) (iatLS (iatSS (iatSS (iatSS (iatSS iatZS))))) (by kernel_rfl) (by kernel_rfl) (by kernel_rfl) (fun _ _ _ h => h) (Or.inl ⟨by rfl, ?_⟩) (by assumption) ?_
  rotate_left
  ·intro w hSw
   try dsimp only at hSw
   go_simp
   all_goals with_reducible rfl
  try simp only [Act.put, List.setIfInBounds_toArray, List.set_cons_zero, List.set_cons_succ]
  refine wpAnyH_take (i := 5) (v := ?_) (iatLS (iatSS (iatSS (iatSS (iatSS (iatSS iatZS)))))) (by kernel_rfl) (by kernel_rfl) (by kernel_rfl) (fun _ _ _ h => h) (Or.inl ⟨by rfl, ?_⟩) (by assumption) ?_
  rotate_left
  ·intro w hSw
   try dsimp only at hSw
   go_simp
   all_goals with_reducible rfl
  try simp only [Act.put, List.setIfInBounds_toArray, List.set_cons_zero, List.set_cons_succ]
  refine wpAnyH_take (i := 6) (v := ?_) (iatLS (iatSS (iatSS (iatSS (iatSS (iatSS (iatSS iatZS))))))) (by kernel_rfl) (by kernel_rfl) (by kernel_rfl) (fun _ _ _ h => h) (Or.inl ⟨by rfl, ?_⟩) (by assumption) ?_
  rotate_left
  ·intro w hSw
   try dsimp only at hSw
   go_simp
   all_goals with_reducible rfl
  try simp only [Act.put, List.setIfInBounds_toArray, List.set_cons_zero, List.set_cons_succ]
  refine wpAnyH_take (i := 7) (v := ?_) (iatLS (iatSS (iatSS (iatSS (iatSS (iatSS (iatSS (iatSS iatZS)))))))) (by kernel_rfl) (by kernel_rfl) (by kernel_rfl) (fun _ _ _ h => h) (Or.inl ⟨by rfl, ?_⟩) (by assumption) ?_
  rotate_left
  ·intro w hSw
   try dsimp only at hSw
   go_simp
   all_goals with_reducible rfl
  try simp only [Act.put, List.setIfInBounds_toArray, List.set_cons_zero, List.set_cons_succ]
  refine wpAnyH_take (i := 8) (v := ?_) (iatLS (iatSS (iatSS (iatSS (iatSS (iatSS (iatSS (iatSS (iatSS iatZS))))))))) (by kernel_rfl) (by kernel_rfl) (by kernel_rfl) (fun _ _ _ h => h) (Or.inl ⟨by rfl, ?_⟩) (by assumption) ?_
  rotate_left
  ·intro w hSw
   try dsimp only at hSw
   go_simp
   all_goals with_reducible rfl
  try simp only [Act.put, List.setIfInBounds_toArray, List.set_cons_zero, List.set_cons_succ]
  refine wpAnyH_take (i := 9) (v := ?_) (iatLS (iatSS (iatSS (iatSS (iatSS (iatSS (iatSS (iatSS (iatSS (iatSS iatZS)))))))))) (by kernel_rfl) (by kernel_rfl) (by kernel_rfl) (fun _ _ _ h => h) (Or.inl ⟨by rfl, ?_⟩) (by assumption) ?_
  rotate_left
  ·intro w hSw
   try dsimp only at hSw
   go_simp
   all_goals with_reducible rfl
  try simp only [Act.put, List.setIfInBounds_toArray, List.set_cons_zero, List.set_cons_succ]
  refine wpAnyH_done (by kernel_rfl) ?_ _
  go_wp2_with (fail)
  go_loopw [55] (fun iv wr => ∃ (i : Nat), i ≤ M ∧ iv = .int .i64 (i : Int) ∧ Below w4.heap.size w4 wr) (fun iv _ => M - (RowKit.intOf iv).toNat)
  case atStart => exact ⟨0, Nat.zero_le _, rfl, Hbr2.out⟩
  case round =>
   obtain ⟨i, hi, rfl, hbi⟩ := hrel
   obtain ⟨U2, rfl⟩ : ∃ U, U = wr := ⟨_, rfl⟩
   have HAi := Lib.hid (HA4.out.below hbi HA4.out.lt)
   have x0 := HAi.out.cell 0
   have x1 := HAi.out.cell 1
   have x2 := HAi.out.cell 2
   have xl := HAi.out.lt
   simp only [List.getElem?_cons_zero, List.getElem?_cons_succ] at x0 x1 x2
   by_cases hlti : i < M
   ·have hiI : (i : Int) < (M : Int) := by omega
    have hiI0 : (0 : Int) ≤ (i : Int) := by omega
    have hii : i < (al.getD r []).length := by rw [HnM.out]; exact hlti
    obtain ⟨hne, htell⟩ := Hrw2.out Hcl.out r i hlt hii
    go_wp2_with (fail)
    refine (Hsp2.out (r : Int) (i : Int) (by omega) (by omega) U2 (Hb4.out.trans (hbi.mono Hb4.out.size))).mono ?_
    rintro e8 W5 ⟨pa, pc, pl, rfl, hpr, hpo, hb⟩
    have hpne : pl.length ≠ 0 := fun e => by
     obtain ⟨t, ht⟩ := hne
     have := (hpr.mem t).2 ht
     rw [List.length_eq_zero_iff.1 e] at this
     cases this
    have HI5 := Lib.hid (OwnKZ.vs hpo)
    have hb5 := hbi.trans (hb.mono hbi.size)
    have Hb5 := Lib.hid hb5
    have hpm : pl.length ≤ pc ∧ pc ≤ 9223372036854775807 := ⟨by have := HI5.out.le; rw [List.length_map] at this; exact this, HI5.out.max⟩
    have Hdec : Hid (∀ (k : Nat) v, tl[k]? = some v → (v = (i : Int) ↔ (k : Int) ∈ pl)) := Lib.hid (fun k v hv => by
     rw [htell k v (by rw [← Htl.out]; exact hv), hpr.mem])
    have cq5 := ((HT4.out.grown hb5).row.cell q qo rfl r (by rw [List.length_map]; exact hrr))
    rw [List.getElem_map, he2.out] at cq5
    change _ = some (Value.slice ta2 tl.length tc2) at cq5
    rw [hRL.out] at cq5
    have hblq := World.block_lt_of_cell? _ _ cq5
    obtain ⟨PL, hPL⟩ : ∃ q, Hid (pl.length = q) := ⟨_, Lib.hid rfl⟩
    rw [hPL.out] at hpne hpm ⊢
    have hpnI : ¬ (PL : Int) = 0 := by omega
    clear x0 x1 x2 xl HAi hb hpr hpo hne htell hii hbi
    go_wp2_with (fail)
    have Hbk0 : Hid (Below W5.heap.size W5 W5) := Lib.hid (Below.refl _ _)
    clear cq5 hblq hb5
    go_loopw [70] (fun kv wr => ∃ (k : Nat), k ≤ RL ∧ kv = .int .i64 (k : Int) ∧ Below W5.heap.size W5 wr) (fun kv _ => RL - (RowKit.intOf kv).toNat)
    case atStart => exact ⟨0, Nat.zero_le _, rfl, Hbk0.out⟩
    case round =>
     obtain ⟨k, hk, rfl, hbk⟩ := hrel
     obtain ⟨U3, rfl⟩ : ∃ U, U = wr := ⟨_, rfl⟩
     by_cases hltk : k < RL
     ·have hkI : (k : Int) < (RL : Int) := by omega
      have hkI0 : (0 : Int) ≤ (k : Int) := by omega
      have hkl : k < tl.length := by rw [hRL.out]; exact hltk
      have hd9 := (Below.refl U3.heap.size U3).drew
      have hbk2 := hbk.trans (hd9.mono hbk.size)
      have hb6 := Hb5.out.trans (hbk2.mono Hb5.out.size)
      have Hbk2 := Lib.hid hbk2
      have HT6 := Lib.hid (HT4.out.grown hb6)
      have cq6 := HT6.out.row.cell q qo rfl r (by rw [List.length_map]; exact hrr)
      rw [List.getElem_map, he2.out] at cq6
      change _ = some (Value.slice ta2 tl.length tc2) at cq6
      rw [hRL.out] at cq6
      have hti := HT6.out.nms _ (List.getElem_mem hrr)
      rw [he2.out] at hti
      dsimp only at hti
      obtain ⟨z, zo, hz⟩ := hti.at_ k (by rw [List.length_map]; exact hkl)
      have cz := hti.cell z zo hz k (by rw [List.length_map]; exact hkl)
      rw [List.getElem_map] at cz
      have hdk := Hdec.out k _ (List.getElem?_eq_getElem hkl)
      obtain ⟨tv, htv⟩ : ∃ v, Hid (tl[k] = v) := ⟨_, Lib.hid rfl⟩
      rw [htv.out] at cz hdk
      have HSe : Hid (U3.drew.cell? ⟨q, qo + r, none⟩ = some (.slice ta2 RL tc2) ∧ U3.drew.cell? ⟨z, zo + k, none⟩ = some (.int .i64 tv)) := Lib.hid ⟨cq6, cz⟩
      have Hin := Lib.hid (in9_any pl pa pc (k : Int) U3.drew ((HI5.out).grown hbk2))
      rw [hPL.out] at Hin
      subst hz
      clear hti cq6 cz hd9 hb6
      by_cases hin : (k : Int) ∈ pl
      ·have hte : tv = (i : Int) := hdk.2 hin
       rw [decide_eq_true hin] at Hin
       subst hte
       clear hdk hin
       go_wp2_with (fail)
       refine wp_region_held_drew (S := fun w' => w'.cell? ⟨q, qo + r, none⟩ = some (.slice (some ⟨z, zo, none⟩) RL tc2) ∧ w'.cell? ⟨z, zo + k, none⟩ = some (.int .i64 (i : Int))) (by kernel_rfl) ?_ (fun hHeld => ?_)
       ·exact HSe.out
       refine wpAnyH_take (i := 0) (v := ?_) (iatLS iatZS) (by kernel_rfl) (by kernel_rfl) (by kernel_rfl) (fun _ _ _ h => h) (Or.inl ⟨by rfl, ?_⟩) (by assumption) ?_
       rotate_left
       ·intro w hSw
        try dsimp only at hSw
        go_simp
        all_goals with_reducible rfl
       try simp only [Act.put, List.setIfInBounds_toArray, List.set_cons_zero, List.set_cons_succ]
       refine wpAnyH_take (i := 1) (v := ?_) (iatLS (iatSS iatZS)) (by kernel_rfl) (by kernel_rfl) (by kernel_rfl) (fun _ _ _ h => h) (Or.inl ⟨by rfl, ?_⟩) (by assumption) ?_
       rotate_left
       ·intro w hSw
        try dsimp only at hSw
        go_simp
        all_goals with_reducible rfl
       try simp only [Act.put, List.setIfInBounds_toArray, List.set_cons_zero, List.set_cons_succ]
       refine wpAnyH_take (i := 2) (v := ?_) (iatLS (iatSS (iatSS iatZS))) (by kernel_rfl) (by kernel_rfl) (by kernel_rfl) (fun _ _ _ h => h) (Or.inl ⟨by rfl, ?_⟩) (by assumption) ?_
       rotate_left
       ·intro w hSw
        try dsimp only at hSw
        go_simp
        all_goals with_reducible rfl
       try simp only [Act.put, List.setIfInBounds_toArray, List.set_cons_zero, List.set_cons_succ]
       refine wpAnyH_take (i := 3) (v := ?_) (iatLS (iatSS (iatSS (iatSS iatZS)))) (by kernel_rfl) (by kernel_rfl) (by kernel_rfl) (fun _ _ _ h => h) (Or.inl ⟨by rfl, ?_⟩) (by assumption) ?_
       rotate_left
       ·intro w hSw
        try dsimp only at hSw
        go_simp
        all_goals with_reducible rfl
       try simp only [Act.put, List.setIfInBounds_toArray, List.set_cons_zero, List.set_cons_succ]
       refine wpAnyH_take (i := 4) (v := ?_) (iatLS (iatSS (iatSS (iatSS (iatSS iatZS))))) (by kernel_rfl) (by kernel_rfl) (by kernel_rfl) (fun _ _ _ h => h) (Or.inl ⟨by rfl, ?_⟩) (by assumption) ?_
       rotate_left
       ·intro w hSw
        try dsimp only at hSw
        go_simp
        all_goals with_reducible rfl
       try simp only [Act.put, List.setIfInBounds_toArray, List.set_cons_zero, List.set_cons_succ]
       refine wpAnyH_take (i := 5) (v := ?_) (iatLS (iatSS (iatSS (iatSS (iatSS (iatSS iatZS)))))) (by kernel_rfl) (by kernel_rfl) (by kernel_rfl) (fun _ _ _ h => h) (Or.inl ⟨by rfl, ?_⟩) (by assumption) ?_
       rotate_left
       ·intro w hSw
        try dsimp only at hSw
        go_simp
        all_goals with_reducible rfl
       try simp only [Act.put, List.setIfInBounds_toArray, List.set_cons_zero, List.set_cons_succ]
       refine wpAnyH_take (i := 6) (v := ?_) (iatLS (iatSS (iatSS (iatSS (iatSS (iatSS (iatSS iatZS))))))) (by kernel_rfl) (by kernel_rfl) (by kernel_rfl) (fun _ _ _ h => h) (Or.inl ⟨by rfl, ?_⟩) (by assumption) ?_
       rotate_left
       ·intro w hSw
        try dsimp only at hSw
        go_simp
        all_goals with_reducible rfl
       try simp only [Act.put, List.setIfInBounds_toArray, List.set_cons_zero, List.set_cons_succ]
       refine wpAnyH_take (i := 7) (v := ?_) (iatLS (iatSS (iatSS (iatSS (iatSS (iatSS (iatSS (iatSS iatZS)))))))) (by kernel_rfl) (by kernel_rfl) (by kernel_rfl) (fun _ _ _ h => h) (Or.inl ⟨by rfl, ?_⟩) (by assumption) ?_
       rotate_left
       ·intro w hSw
        try dsimp only at hSw
        go_simp
        all_goals with_reducible rfl
       try simp only [Act.put, List.setIfInBounds_toArray, List.set_cons_zero, List.set_cons_succ]
       refine wpAnyH_take (i := 8) (v := ?_) (iatLS (iatSS (iatSS (iatSS (iatSS (iatSS (iatSS (iatSS (iatSS iatZS))))))))) (by kernel_rfl) (by kernel_rfl) (by kernel_rfl) (fun _ _ _ h => h) (Or.inl ⟨by rfl, ?_⟩) (by assumption) ?_
       rotate_left
       ·intro w hSw
        try dsimp only at hSw
        go_simp
        all_goals with_reducible rfl
       try simp only [Act.put, List.setIfInBounds_toArray, List.set_cons_zero, List.set_cons_succ]
       refine wpAnyH_take (i := 9) (v := ?_) (iatLS (iatSS (iatSS (iatSS (iatSS (iatSS (iatSS (iatSS (iatSS (iatSS iatZS)))))))))) (by kernel_rfl) (by kernel_rfl) (by kernel_rfl) (fun _ _ _ h => h) (Or.inl ⟨by rfl, ?_⟩) (by assumption) ?_
       rotate_left
       ·intro w hSw
        try dsimp only at hSw
        go_simp
        all_goals with_reducible rfl
       try simp only [Act.put, List.setIfInBounds_toArray, List.set_cons_zero, List.set_cons_succ]
       refine wpAnyH_take (i := 10) (v := ?_) (iatLS (iatSS (iatSS (iatSS (iatSS (iatSS (iatSS (iatSS (iatSS (iatSS (iatSS iatZS))))))))))) (by kernel_rfl) (by kernel_rfl) (by kernel_rfl) (fun _ _ _ h => h) (Or.inl ⟨by rfl, ?_⟩) (by assumption) ?_
       rotate_left
       ·intro w hSw
        try dsimp only at hSw
        go_simp
        all_goals with_reducible rfl
       try simp only [Act.put, List.setIfInBounds_toArray, List.set_cons_zero, List.set_cons_succ]
       refine wpAnyH_ready (rs := [11]) (by kernel_rfl) (by simp) ?_
       refine AllReadyH.cons (iatLS (iatSS (iatSS (iatSS (iatSS (iatSS (iatSS (iatSS (iatSS (iatSS (iatSS (iatSS iatZS)))))))))))) (fun K hK => ?_) AllReadyH.nil
       go_simp
       (with_reducible refine Hin.out.mono ?_)
       rintro e8 W9 ⟨rfl, rfl⟩
       try dsimp only
       refine hK.out _ _ ?_ (fun hHeld => ?_)
       ·exact HSe.out
       clear hK K
       try simp only [Act.put, List.setIfInBounds_toArray, List.set_cons_zero, List.set_cons_succ]
       refine wpAnyH_take (i := 12) (v := ?_) (iatLS (iatSS (iatSS (iatSS (iatSS (iatSS (iatSS (iatSS (iatSS (iatSS (iatSS (iatSS (iatSS iatZS))))))))))))) (by kernel_rfl) (by kernel_rfl) (by kernel_rfl) (fun _ _ _ h => h) (Or.inl ⟨by rfl, ?_⟩) (by assumption) ?_
       rotate_left
       ·intro w hSw
        try dsimp only at hSw
        go_simp
        all_goals with_reducible rfl
       try simp only [Act.put, List.setIfInBounds_toArray, List.set_cons_zero, List.set_cons_succ]
       refine wpAnyH_done (by kernel_rfl) ?_ _
       go_wp2_with (fail)
       refine ⟨?_, ?_⟩
       ·simp
        exact ⟨_, _, _, ⟨k + 1, by omega, rfl, Hbk2.out⟩, rfl, rfl, hpne, by first | rfl | go_num⟩
       ·simp [RowKit.intOf]
        omega
      ·have hte : ¬ tv = (i : Int) := fun e => hin (hdk.1 e)
       have htb : (tv == (i : Int)) = false := by simp [hte]
       rw [decide_eq_false hin] at Hin
       clear hdk hin
       go_wp2_with (fail)
       refine wp_region_held_drew (S := fun w' => w'.cell? ⟨q, qo + r, none⟩ = some (.slice (some ⟨z, zo, none⟩) RL tc2) ∧ w'.cell? ⟨z, zo + k, none⟩ = some (.int .i64 tv)) (by kernel_rfl) ?_ (fun hHeld => ?_)
       ·exact HSe.out
       refine wpAnyH_take (i := 0) (v := ?_) (iatLS iatZS) (by kernel_rfl) (by kernel_rfl) (by kernel_rfl) (fun _ _ _ h => h) (Or.inl ⟨by rfl, ?_⟩) (by assumption) ?_
       rotate_left
       ·intro w hSw
        try dsimp only at hSw
        go_simp
        all_goals with_reducible rfl
       try simp only [Act.put, List.setIfInBounds_toArray, List.set_cons_zero, List.set_cons_succ]
       refine wpAnyH_take (i := 1) (v := ?_) (iatLS (iatSS iatZS)) (by kernel_rfl) (by kernel_rfl) (by kernel_rfl) (fun _ _ _ h => h) (Or.inl ⟨by rfl, ?_⟩) (by assumption) ?_
       rotate_left
       ·intro w hSw
        try dsimp only at hSw
        go_simp
        all_goals with_reducible rfl
       try simp only [Act.put, List.setIfInBounds_toArray, List.set_cons_zero, List.set_cons_succ]
       refine wpAnyH_take (i := 2) (v := ?_) (iatLS (iatSS (iatSS iatZS))) (by kernel_rfl) (by kernel_rfl) (by kernel_rfl) (fun _ _ _ h => h) (Or.inl ⟨by rfl, ?_⟩) (by assumption) ?_
       rotate_left
       ·intro w hSw
        try dsimp only at hSw
        go_simp
        all_goals with_reducible rfl
       try simp only [Act.put, List.setIfInBounds_toArray, List.set_cons_zero, List.set_cons_succ]
       refine wpAnyH_take (i := 3) (v := ?_) (iatLS (iatSS (iatSS (iatSS iatZS)))) (by kernel_rfl) (by kernel_rfl) (by kernel_rfl) (fun _ _ _ h => h) (Or.inl ⟨by rfl, ?_⟩) (by assumption) ?_
       rotate_left
       ·intro w hSw
        try dsimp only at hSw
        go_simp
        all_goals with_reducible rfl
       try simp only [Act.put, List.setIfInBounds_toArray, List.set_cons_zero, List.set_cons_succ]
       refine wpAnyH_take (i := 4) (v := ?_) (iatLS (iatSS (iatSS (iatSS (iatSS iatZS))))) (by kernel_rfl) (by kernel_rfl) (by kernel_rfl) (fun _ _ _ h => h) (Or.inl ⟨by rfl, ?_⟩) (by assumption) ?_
       rotate_left
       ·intro w hSw
        try dsimp only at hSw
        go_simp
        all_goals with_reducible rfl
       try simp only [Act.put, List.setIfInBounds_toArray, List.set_cons_zero, List.set_cons_succ]
       refine wpAnyH_take (i := 5) (v := ?_) (iatLS (iatSS (iatSS (iatSS (iatSS (iatSS iatZS)))))) (by kernel_rfl) (by kernel_rfl) (by kernel_rfl) (fun _ _ _ h => h) (Or.inl ⟨by rfl, ?_⟩) (by assumption) ?_
       rotate_left
       ·intro w hSw
        try dsimp only at hSw
        go_simp
        all_goals with_reducible rfl
       try simp only [Act.put, List.setIfInBounds_toArray, List.set_cons_zero, List.set_cons_succ]
       refine wpAnyH_take (i := 6) (v := ?_) (iatLS (iatSS (iatSS (iatSS (iatSS (iatSS (iatSS iatZS))))))) (by kernel_rfl) (by kernel_rfl) (by kernel_rfl) (fun _ _ _ h => h) (Or.inl ⟨by rfl, ?_⟩) (by assumption) ?_
       rotate_left
       ·intro w hSw
        try dsimp only at hSw
        go_simp
        all_goals with_reducible rfl
       try simp only [Act.put, List.setIfInBounds_toArray, List.set_cons_zero, List.set_cons_succ]
       refine wpAnyH_take (i := 7) (v := ?_) (iatLS (iatSS (iatSS (iatSS (iatSS (iatSS (iatSS (iatSS iatZS)))))))) (by kernel_rfl) (by kernel_rfl) (by kernel_rfl) (fun _ _ _ h => h) (Or.inl ⟨by rfl, ?_⟩) (by assumption) ?_
       rotate_left
       ·intro w hSw
        try dsimp only at hSw
        go_simp
        all_goals with_reducible rfl
       try simp only [Act.put, List.setIfInBounds_toArray, List.set_cons_zero, List.set_cons_succ]
       refine wpAnyH_take (i := 8) (v := ?_) (iatLS (iatSS (iatSS (iatSS (iatSS (iatSS (iatSS (iatSS (iatSS iatZS))))))))) (by kernel_rfl) (by kernel_rfl) (by kernel_rfl) (fun _ _ _ h => h) (Or.inl ⟨by rfl, ?_⟩) (by assumption) ?_
       rotate_left
       ·intro w hSw
        try dsimp only at hSw
        go_simp
        all_goals with_reducible rfl
       try simp only [Act.put, List.setIfInBounds_toArray, List.set_cons_zero, List.set_cons_succ]
       refine wpAnyH_take (i := 9) (v := ?_) (iatLS (iatSS (iatSS (iatSS (iatSS (iatSS (iatSS (iatSS (iatSS (iatSS iatZS)))))))))) (by kernel_rfl) (by kernel_rfl) (by kernel_rfl) (fun _ _ _ h => h) (Or.inl ⟨by rfl, ?_⟩) (by assumption) ?_
       rotate_left
       ·intro w hSw
        try dsimp only at hSw
        go_simp
        all_goals with_reducible rfl
       try simp only [Act.put, List.setIfInBounds_toArray, List.set_cons_zero, List.set_cons_succ]
       refine wpAnyH_take (i := 10) (v := ?_) (iatLS (iatSS (iatSS (iatSS (iatSS (iatSS (iatSS (iatSS (iatSS (iatSS (iatSS iatZS))))))))))) (by kernel_rfl) (by kernel_rfl) (by kernel_rfl) (fun _ _ _ h => h) (Or.inl ⟨by rfl, ?_⟩) (by assumption) ?_
       rotate_left
       ·intro w hSw
        try dsimp only at hSw
        go_simp
        all_goals with_reducible rfl
       try simp only [Act.put, List.setIfInBounds_toArray, List.set_cons_zero, List.set_cons_succ]
       refine wpAnyH_ready (rs := [11]) (by kernel_rfl) (by simp) ?_
       refine AllReadyH.cons (iatLS (iatSS (iatSS (iatSS (iatSS (iatSS (iatSS (iatSS (iatSS (iatSS (iatSS (iatSS iatZS)))))))))))) (fun K hK => ?_) AllReadyH.nil
       go_simp
       (with_reducible refine Hin.out.mono ?_)
       rintro e8 W9 ⟨rfl, rfl⟩
       try dsimp only
       refine hK.out _ _ ?_ (fun hHeld => ?_)
       ·exact HSe.out
       clear hK K
       try simp only [Act.put, List.setIfInBounds_toArray, List.set_cons_zero, List.set_cons_succ]
       refine wpAnyH_take (i := 12) (v := ?_) (iatLS (iatSS (iatSS (iatSS (iatSS (iatSS (iatSS (iatSS (iatSS (iatSS (iatSS (iatSS (iatSS iatZS))))))))))))) (by kernel_rfl) (by kernel_rfl) (by kernel_rfl) (fun _ _ _ h => h) (Or.inl ⟨by rfl, ?_⟩) (by assumption) ?_
       rotate_left
       ·intro w hSw
        try dsimp only at hSw
        go_simp
        all_goals with_reducible rfl
       try simp only [Act.put, List.setIfInBounds_toArray, List.set_cons_zero, List.set_cons_succ]
       refine wpAnyH_done (by kernel_rfl) ?_ _
       go_wp2_with (fail)
       refine ⟨?_, ?_⟩
       ·simp
        exact ⟨_, _, _, ⟨k + 1, by omega, rfl, Hbk2.out⟩, rfl, rfl, hpne, by first | rfl | go_num⟩
       ·simp [RowKit.intOf]
        omega
     ·have hke : k = RL := by omega
      have hkI : ¬ (k : Int) < (RL : Int) := by omega
      have hb6 := Hb5.out.trans (hbk.mono Hb5.out.size)
      have Hb6 := Lib.hid hb6
      clear hb6
      go_wp2_with (fail)
      exact ⟨⟨i + 1, by omega, by go_num, Hb6.out⟩, by simp [RowKit.intOf]; omega⟩
   ·have hie : i = M := by omega
    have hiI : ¬ (i : Int) < (M : Int) := by omega
    clear x0 x1 x2 xl
    go_wp2_with (fail)
    exact ⟨⟨r + 1, by omega, by go_num, hbi⟩, by simp [RowKit.intOf]; omega⟩
 ·have hre : r = L := by omega
  have hrI : ¬ (r : Int) < (L : Int) := by omega
  have Hb9 := Lib.hid (Hb4.out.trans (hbr.mono Hb4.out.size))
  go_wp2_with (fail)
  exact bodyPost_ret (v := .bool true) (by simp [results, Try.results8, go_sem]; try first | rfl | assumption | omega) rfl ⟨rfl, Hb9.out⟩
end Go.Proofs.Ytldmgifphkpdlaa
namespace Go.Proofs.Ytldmgifphkpdlaa
open Go.ChangeShapes Go.WideShapes Go.ChangeAt Go.RowKit
attribute [local go_sem] Oper.semAt_some
/-- What an int may be. -/
def Bd (x : Int) : Prop := -9223372036854775808 ≤ x ∧ x ≤ 9223372036854775807
theorem wf_bd {n : Int} (h : (Go.Lit.int .i64 n).wf = true) : Bd n := by
 unfold Bd
 simp [Go.Lit.wf, IntKind.min, IntKind.max, IntKind.signed, IntKind.bits] at h
 omega
theorem int_cells8 : Try.prog.cellsOf 3 = 1 := by kernel_rfl
theorem ints_cells8 : Try.prog.cellsOf 35 = 1 := by kernel_rfl
theorem intss_cells8 : Try.prog.cellsOf 32 = 1 := by kernel_rfl
theorem intsss_cells8 : Try.prog.cellsOf 23 = 1 := by kernel_rfl
theorem cfg_cells8 : Try.prog.cellsOf 25 = 3 := by kernel_rfl
def szIl (ds : List IltD) : Nat := (ds.map (fun d => d.l.length)).sum
theorem szIl_is (r : IrD) : r.ds.length + szIl r.ds = szJ r.p := by
 unfold szJ szIl IrD.p
 rw [List.length_map, List.map_map]
 rfl
set_option maxRecDepth 100000 in
theorem open_intl2 {H : Type} {enc : TypeId × Value → H} {W : World} {base : Nat} {sp : Nat → Bool} {hd : Bool} (fuel : Nat) (cs : List Value) (x : DataW H × List MemPlace) (h : DataW.trod enc Try.prog W base sp hd fuel 35 cs = some x) :
 ∃ d : IltD, cs = [.slice d.a d.l.length d.c] ∧ Ints W d.a d.c d.l ∧ (∀ n ∈ d.l, Bd n) ∧ d.l.length + 1 ≤ Rows.uptoBulk x.1 := by
 rcases DataW.trod_slice Try.underlying35 h with ⟨e3, _⟩ | ⟨a, len, cap, elems, rest, n', hn, e3, x3, hb, hle, hm, hel, hcell, _, _⟩
 ·exact ⟨⟨[], none, 0⟩, by rw [e3]; rfl, Vs.nil W, fun n h => (by cases h), by simpa using bulk_pos x.1⟩
 ·have hmax : maxLen ≤ 9223372036854775807 := by decide
  have hbk : len + 1 ≤ Rows.uptoBulk x.1 := by
   rw [x3]
   simp only [Rows.uptoBulk]
   have h1 := bulkAll_sum (elems.map (·.1))
   have h2 := sum_le8 (fun _ => 1) Rows.uptoBulk (elems.map (·.1)) (elems.map (·.1)) rfl (fun i h1 h2 => bulk_pos _)
   rw [sum_ones, List.length_map, hel] at h2
   omega
  have each : ∀ i, i < len → ∃ s : Int, W.cell? ((a.add (i * 1)).add 0) = some (.int .i64 s) ∧ Bd s := by
   intro i hi
   have hc := hcell i hi
   rw [List.getElem?_eq_getElem (by omega), int_cells8, Option.bind_eq_some_iff] at hc
   obtain ⟨cs', hcs, ht⟩ := hc
   obtain ⟨s, e0, _, ws0⟩ := DataW.trod_int Try.underlying3 ht
   have ws := wf_bd ws0
   subst e0
   exact ⟨s, (World.cells?_some hcs).2.2 0 (by omega), ws⟩
  by_cases h0 : len = 0
  ·subst h0
   exact ⟨⟨[], some a, cap⟩, by rw [e3]; rfl, ⟨by simp, (show cap ≤ 9223372036854775807 by omega), fun e => (by cases e), fun i h => by simp at h, fun b off e i h => by simp at h⟩, fun n h => (by cases h), by simpa using bulk_pos x.1⟩
  ·obtain ⟨b, off, spot⟩ := a
   have hspot : spot = none := by
    obtain ⟨s, hc, _⟩ := each 0 (by omega)
    simpa [Addr.add] using World.cell?_spot hc
   subst hspot
   have each2 : ∀ i, i < len → ∃ s : Int, W.cell? ⟨b, off + i, none⟩ = some (.int .i64 s) ∧ Bd s := by
    intro i hi
    obtain ⟨s, hc, hz⟩ := each i hi
    rw [add_plain, add_plain, Nat.mul_one, Nat.add_zero] at hc
    exact ⟨s, hc, hz⟩
   obtain ⟨l, hl1, hl2⟩ := row_of len each2
   refine ⟨⟨l, some ⟨b, off, none⟩, cap⟩, by rw [e3, hl1], ⟨by rw [List.length_map]; exact (show l.length ≤ cap by omega), (show cap ≤ 9223372036854775807 by omega), fun e => (by cases e), fun i _ => ⟨b, off, rfl⟩, fun b' off' e i hi => ?_⟩, fun n hn => ?_, by show l.length + 1 ≤ _; omega⟩
   ·cases e
    rw [List.getElem_map]
    exact (hl2 i (by rwa [List.length_map] at hi)).1
   ·obtain ⟨i, hi, rfl⟩ := List.getElem_of_mem hn
    exact (hl2 i hi).2
set_option maxRecDepth 100000 in
theorem open_intll2 {H : Type} {enc : TypeId × Value → H} {W : World} {base : Nat} {sp : Nat → Bool} {hd : Bool} (fuel : Nat) (cs : List Value) (x : DataW H × List MemPlace) (h : DataW.trod enc Try.prog W base sp hd fuel 32 cs = some x) :
 ∃ (ds : List IltD) (a : Option Addr) (c : Nat), cs = [.slice a ds.length c] ∧ AltsI W a c ds ∧ (∀ d ∈ ds, ∀ n ∈ d.l, Bd n) ∧ ds.length + szIl ds + 1 ≤ Rows.uptoBulk x.1 := by
 rcases DataW.trod_slice Try.underlying32 h with ⟨e3, _⟩ | ⟨a, len, cap, elems, rest, n', hn, e3, x3, hb, hle, hm, hel, hcell, _, _⟩
 ·exact ⟨[], none, 0, by rw [e3]; rfl, ⟨Vs.nil W, fun d h => by cases h⟩, fun d h => (by cases h), by simpa [szIl] using bulk_pos x.1⟩
 ·have hmax : maxLen ≤ 9223372036854775807 := by decide
  have each : ∀ i (hi : i < len), ∃ d : IltD, W.cell? ((a.add (i * 1)).add 0) = some d.v ∧ Ints W d.a d.c d.l ∧ (∀ n ∈ d.l, Bd n) ∧ d.l.length + 1 ≤ Rows.uptoBulk (elems[i]'(by omega)).1 := by
   intro i hi
   have hc := hcell i hi
   rw [List.getElem?_eq_getElem (by omega), ints_cells8, Option.bind_eq_some_iff] at hc
   obtain ⟨cs', hcs, ht⟩ := hc
   obtain ⟨d, rfl, hN, hz, hk⟩ := open_intl2 n' cs' _ ht
   exact ⟨d, (World.cells?_some hcs).2.2 0 (by omega), hN, hz, hk⟩
  by_cases h0 : len = 0
  ·subst h0
   exact ⟨[], some a, cap, by rw [e3]; rfl, ⟨⟨by simp, by omega, fun e => (by cases e), fun i h => by simp at h, fun b off e i h => by simp at h⟩, fun d hd => by cases hd⟩, fun d h => (by cases h), by simpa [szIl] using bulk_pos x.1⟩
  ·obtain ⟨b, off, spot⟩ := a
   have hspot : spot = none := by
    obtain ⟨s, hc, _⟩ := each 0 (by omega)
    simpa [Addr.add] using World.cell?_spot hc
   subst hspot
   obtain ⟨l, hl1, hl2, hl3⟩ := row_of2 (P := fun i (d : IltD) => W.cell? ⟨b, off + i, none⟩ = some d.v ∧ Ints W d.a d.c d.l ∧ ∀ n ∈ d.l, Bd n) (f := fun d : IltD => d.l.length + 1) (g := Rows.uptoBulk) (elems.map (·.1)) len (by rw [List.length_map, hel]) (fun i hi => by
    obtain ⟨d, hc, hN, hz, hk⟩ := each i (by rw [List.length_map] at hi; omega)
    rw [add_plain, add_plain, Nat.mul_one, Nat.add_zero] at hc
    exact ⟨d, ⟨hc, hN, hz⟩, by rw [List.getElem_map]; exact hk⟩)
   refine ⟨l, some ⟨b, off, none⟩, cap, by rw [e3, hl1], ⟨⟨by rw [List.length_map]; omega, by omega, fun e => (by cases e), fun i _ => ⟨b, off, rfl⟩, fun b' off' e i hi => ?_⟩, fun d hd => ?_⟩, fun d hd => ?_, ?_⟩
   ·cases e
    rw [List.getElem_map]
    exact (hl2 i (by rwa [List.length_map] at hi)).1
   ·obtain ⟨i, hi, rfl⟩ := List.getElem_of_mem hd
    exact (hl2 i hi).2.1
   ·obtain ⟨i, hi, rfl⟩ := List.getElem_of_mem hd
    exact (hl2 i hi).2.2
   ·rw [x3]
    simp only [Rows.uptoBulk]
    rw [bulkAll_sum (elems.map (·.1))]
    have h4 : (l.map (fun d : IltD => d.l.length + 1)).sum = l.length + szIl l := by
     clear hl1 hl2 hl3
     induction l with
     | nil => simp [szIl]
     | cons d l ih =>
      have e : szIl (d :: l) = d.l.length + szIl l := by simp [szIl]
      rw [List.map_cons, List.sum_cons, ih, e, List.length_cons]
      omega
    omega
set_option maxRecDepth 100000 in
theorem open_intlll2 {H : Type} {enc : TypeId × Value → H} {W : World} {base : Nat} {sp : Nat → Bool} {hd : Bool} (fuel : Nat) (cs : List Value) (x : DataW H × List MemPlace) (h : DataW.trod enc Try.prog W base sp hd fuel 23 cs = some x) :
 ∃ (al : List IrD) (a : Option Addr) (c : Nat), cs = [.slice a al.length c] ∧ Vs W a c (al.map IrD.v) ∧ (∀ r ∈ al, AltsI W r.a r.c r.ds) ∧ (∀ r ∈ al, ∀ d ∈ r.ds, ∀ n ∈ d.l, Bd n) ∧ al.length + szC (al.map IrD.p) + 1 ≤ Rows.uptoBulk x.1 := by
 rcases DataW.trod_slice Try.underlying23 h with ⟨e3, _⟩ | ⟨a, len, cap, elems, rest, n', hn, e3, x3, hb, hle, hm, hel, hcell, _, _⟩
 ·exact ⟨[], none, 0, by rw [e3]; rfl, Vs.nil W, fun d h => (by cases h), fun d h => (by cases h), by simpa [szC] using bulk_pos x.1⟩
 ·have hmax : maxLen ≤ 9223372036854775807 := by decide
  have each : ∀ i (hi : i < len), ∃ r : IrD, W.cell? ((a.add (i * 1)).add 0) = some r.v ∧ AltsI W r.a r.c r.ds ∧ (∀ d ∈ r.ds, ∀ n ∈ d.l, Bd n) ∧ szJ r.p + 1 ≤ Rows.uptoBulk (elems[i]'(by omega)).1 := by
   intro i hi
   have hc := hcell i hi
   rw [List.getElem?_eq_getElem (by omega), intss_cells8, Option.bind_eq_some_iff] at hc
   obtain ⟨cs', hcs, ht⟩ := hc
   obtain ⟨ds, ra, rc, rfl, hN, hz, hk⟩ := open_intll2 n' cs' _ ht
   have hk2 := szIl_is ⟨ds, ra, rc⟩
   dsimp only at hk2
   exact ⟨⟨ds, ra, rc⟩, (World.cells?_some hcs).2.2 0 (by omega), hN, hz, by omega⟩
  by_cases h0 : len = 0
  ·subst h0
   exact ⟨[], some a, cap, by rw [e3]; rfl, ⟨by simp, by omega, fun e => (by cases e), fun i h => by simp at h, fun b off e i h => by simp at h⟩, fun d h => (by cases h), fun d h => (by cases h), by simpa [szC] using bulk_pos x.1⟩
  ·obtain ⟨b, off, spot⟩ := a
   have hspot : spot = none := by
    obtain ⟨s, hc, _⟩ := each 0 (by omega)
    simpa [Addr.add] using World.cell?_spot hc
   subst hspot
   obtain ⟨l, hl1, hl2, hl3⟩ := row_of2 (P := fun i (r : IrD) => W.cell? ⟨b, off + i, none⟩ = some r.v ∧ AltsI W r.a r.c r.ds ∧ ∀ d ∈ r.ds, ∀ n ∈ d.l, Bd n) (f := fun r : IrD => szJ r.p + 1) (g := Rows.uptoBulk) (elems.map (·.1)) len (by rw [List.length_map, hel]) (fun i hi => by
    obtain ⟨d, hc, hN, hz, hk⟩ := each i (by rw [List.length_map] at hi; omega)
    rw [add_plain, add_plain, Nat.mul_one, Nat.add_zero] at hc
    exact ⟨d, ⟨hc, hN, hz⟩, by rw [List.getElem_map]; exact hk⟩)
   refine ⟨l, some ⟨b, off, none⟩, cap, by rw [e3, hl1], ⟨by rw [List.length_map]; omega, by omega, fun e => (by cases e), fun i _ => ⟨b, off, rfl⟩, fun b' off' e i hi => ?_⟩, fun d hd => ?_, fun d hd => ?_, ?_⟩
   ·cases e
    rw [List.getElem_map]
    exact (hl2 i (by rwa [List.length_map] at hi)).1
   ·obtain ⟨i, hi, rfl⟩ := List.getElem_of_mem hd
    exact (hl2 i hi).2.1
   ·obtain ⟨i, hi, rfl⟩ := List.getElem_of_mem hd
    exact (hl2 i hi).2.2
   ·rw [x3]
    simp only [Rows.uptoBulk]
    rw [bulkAll_sum (elems.map (·.1))]
    have h4 : (l.map (fun r : IrD => szJ r.p + 1)).sum = l.length + szC (l.map IrD.p) := by
     clear hl1 hl2 hl3
     induction l with
     | nil => simp [szC]
     | cons d l ih =>
      have e : szC ((d :: l).map IrD.p) = szJ d.p + szC (l.map IrD.p) := by simp [szC, szJ]
      rw [List.map_cons, List.sum_cons, ih, e, List.length_cons]
      omega
    omega
set_option maxRecDepth 100000 in
theorem open_cfg2 {H : Type} {enc : TypeId × Value → H} {W : World} {v : Value} {d : DataW H} {ps : List MemPlace} (hok : Value.okWide Try.prog W .any 0 25 v) (h : DataW.Trod enc Try.prog W 0 (fun _ => true) true 25 v d ps) :
 ∃ c : CfD, v = c.v ∧ CfAt W c ∧ (∀ t ∈ c.toks, t.size ≤ maxLen) ∧ (∀ t ∈ c.names, t.size ≤ maxLen) ∧ (∀ r ∈ c.alts, ∀ a ∈ r.ds, ∀ x ∈ a.l, Bd x) ∧ c.toks.length + c.names.length + szC (c.alts.map IrD.p) ≤ Rows.uptoBulk d := by
 obtain ⟨cs, rfl, _⟩ := okWide_struct Try.underlying25 hok
 obtain ⟨fuel, hf⟩ := h
 obtain ⟨xs, n, rfl, e9, hl, hlen, hf⟩ := DataW.trod_struct Try.underlying25 hf
 rw [cfg_cells8] at hl
 obtain ⟨v0, v1, v2, hv⟩ : ∃ v0 v1 v2, cs.toList = [v0, v1, v2] := by
  match hc : cs.toList, (show cs.toList.length = 3 from hl) with
  | [v0, v1, v2], _ => exact ⟨v0, v1, v2, rfl⟩
 obtain ⟨y0, y1, y2, rfl⟩ : ∃ y0 y1 y2, xs = [y0, y1, y2] := by
  match xs, hlen with
  | [y0, y1, y2], _ => exact ⟨y0, y1, y2, rfl⟩
 have h0 := hf 0 _ rfl
 have h1 := hf 1 _ rfl
 have h2 := hf 2 _ rfl
 rw [show (Value.agg cs).cells.toList = [v0, v1, v2] from hv] at h0 h1 h2
 simp only [strs_cells, intsss_cells8, List.drop_zero, List.drop_succ_cons, List.take_succ_cons, List.take_zero, List.getElem?_cons_zero, List.getElem?_cons_succ] at h0 h1 h2
 obtain ⟨dt, e0, hT, zT, kT⟩ := open_strl2 _ _ _ h0
 injection e0 with e0 _
 subst e0
 obtain ⟨dn, e1, hN, zN, kN⟩ := open_strl2 _ _ _ h1
 injection e1 with e1 _
 subst e1
 obtain ⟨al, aa, ac, e2, hR, hI, hB, hk⟩ := open_intlll2 _ _ _ h2
 injection e2 with e2 _
 subst e2
 have e9 := (Prod.mk.inj e9).1
 refine ⟨⟨dt.l, dt.a, dt.c, dn.l, dn.a, dn.c, al, aa, ac⟩, ?_, ⟨hT, hN, hR, hI⟩, zT, zN, hB, ?_⟩
 ·cases cs
  simp only at hv
  rw [hv]
 ·rw [e9]
  simp only [List.map_cons, List.map_nil, Rows.uptoBulk, Rows.uptoBulkAll]
  omega
end Go.Proofs.Ytldmgifphkpdlaa
namespace Go.Proofs.Ytldmgifphkpdlaa
open Go.ChangeShapes Go.WideShapes Go.ChangeAt Go.RowKit
set_option maxRecDepth 100000 in
theorem tableRows_contract (H : Type) (enc : TypeId × Value → H) (W : World) (args : Array Value) (ds gs : List (DataW H)) (before : List MemPlace)
 (hval : ∀ (j : Nat) t v, Try.f8.params[j]? = some t → args[j]? = some v → Value.okWide Try.prog W .any 0 t v)
 (hW : DataW.Whole enc Try.prog Try.f8.params.toList Rows.tableRowsSpec.vars false W args.toList ds gs before) (hk : Rows.uptoSmall H (ds ++ gs) = true) :
 Calls Try.prog 8 args W fun e W' => ∃ v, e = .returned v ∧ Rows.tableRowsSpec.post enc Try.prog Try.f8 false true false false W args v W' := by
 have hW' := hW
 obtain ⟨p, q, hA0, hV, rfl, hfz, hnd⟩ := hW
 have hA : DataW.TrodAll enc Try.prog W 0 (fun _ => true) true Try.f8.params.toList args.toList ds p := hA0
 rw [Try.params8] at hA hval
 obtain ⟨v0, d0, rfl, rfl, h0⟩ := trodAll_one hA
 have hb : Rows.uptoBulkAll ([d0] ++ gs) ≤ 1048576 := of_decide_eq_true hk
 simp only [List.cons_append, List.nil_append, Rows.uptoBulkAll] at hb
 obtain ⟨c, rfl, hc, z1, z2, z3, hz⟩ := open_cfg2 (hval 0 25 v0 rfl rfl) h0
 refine (lawRows_any c W hc z1 z2 z3 (by omega)).mono fun e W' ⟨he, hw⟩ => ?_
 subst he
 exact ⟨_, rfl, law_post hW' rfl rfl (by kernel_rfl) (by rw [Try.params8]; intro t ht; simp at ht; subst ht; exact ⟨by kernel_rfl, of_decide_eq_true (by kernel_rfl)⟩) hw⟩
set_option maxRecDepth 100000 in
theorem tableRows_lifted (os : Os) (started : os.Started) (H : Type) (enc : TypeId × Value → H) (F : Stop.Interp) :
 ReturnsInHanded {} Try.checked os 8 .any ((Rows.OpenSpec.upto Rows.tableRowsSpec).pre6 enc Try.prog Try.f8 Rows.tableRowsUptoRow.domain false) (((Rows.OpenSpec.upto Rows.tableRowsSpec).at F).post enc Try.prog Try.f8 false true false false) := by
 refine returnsInHanded_of_cond (C := Try.checked) (s := Rows.OpenSpec.upto Rows.tableRowsSpec) (k := Rows.uptoSmall) rfl Try.own started (by kernel_rfl) Try.func8
  (OpenSpec.witness (enc := enc) (C := Try.checked) (s := Rows.OpenSpec.upto Rows.tableRowsSpec) (k := Rows.uptoSmall) rfl false ⟨#[], #[.agg #[.slice none 0 0, .slice none 0 0, .slice none 0 0]], []⟩ 8 (by kernel_rfl) (by kernel_rfl) (by kernel_rfl)
   (x := ([.agg [.nil, .nil, .nil]], [], [])) (by kernel_rfl) rfl (by kernel_rfl)) ?_
 intro W base args ds gs before hval hW _ hk _
 exact tableRows_contract H enc W args ds gs before hval hW hk
theorem tableRows_holds : Rows.TableRowsUptoSaid :=
 OpenClaim.holds_of_cond 8 Try.f8 rfl rfl rfl rfl rfl rfl rfl ⟨rfl, rfl, rfl, rfl, rfl⟩ rfl rfl rfl rfl rfl (by kernel_rfl) Try.func8 (by kernel_rfl)
  (of_decide_eq_true (by kernel_rfl)) (by unfold Func.isWrapper; first | (rw [if_pos (by decide +kernel)]; kernel_rfl) | (rw [if_neg (by decide +kernel)]; exact ⟨rfl, rfl⟩))
  (fun os started H enc _ F => tableRows_lifted os started H enc F)
end Go.Proofs.Ytldmgifphkpdlaa
