/- Texts joined: Ws. -/
import Derived.Test.YtiopbjgpaidemaaRGAu
import Derived.Test.YtiopbjgpaidemaaRGAt
import Derived.Test.YtiopbjgpaidemaaRGAs
set_option linter.unusedVariables false
set_option linter.unusedSimpArgs false
namespace Go.Proofs.Ytiopbjgpaidemaa
open Go.RowKit Go.Maps

attribute [local go_sem] Oper.semAt_some

set_option maxRecDepth 100000 in
set_option maxHeartbeats 16000000 in
theorem part_any (l m : List Int) (a b : Option Addr) (ac bc : Nat) (w : World) (hl : Ints w a ac l) (hm : Ints w b bc m) (hs : ∀ x ∈ l, x ∈ m) :
    Calls Try.prog 36 #[.slice a l.length ac, .slice b m.length bc] w fun e w' => e = .returned (.bool true) ∧ w' = w := by
  have hlm : l.length ≤ ac ∧ ac ≤ 9223372036854775807 := ⟨by have := hl.le; rwa [List.length_map] at this, hl.max⟩
  have Hin := Lib.hid (fun x => in9_any m b bc x w hm)
  obtain ⟨L, HL⟩ : ∃ L, Hid (l.length = L) := ⟨_, Lib.hid rfl⟩
  obtain ⟨M, HM⟩ : ∃ L, Hid (m.length = L) := ⟨_, Lib.hid rfl⟩
  rw [HL.out] at hlm ⊢
  rw [HM.out] at Hin ⊢
  go_enter Try.func36, Try.ntmps36
  go_wp2_with (fail)
  go_loopw [9] (fun i wr => ∃ (k : Nat), k ≤ L ∧ i = .int .i64 k ∧ wr = w) (fun i _ => L - (RowKit.intOf i).toNat)
  case atStart => exact ⟨0, by omega, rfl, rfl⟩
  case round =>
    obtain ⟨k, hk, rfl, hwr⟩ := hrel
    subst hwr
    by_cases hlt : k < L
    · have hkI : (k : Int) < (L : Int) := by omega
      have hkI0 : (0 : Int) ≤ (k : Int) := by omega
      have hkl : k < l.length := by rw [HL.out]; exact hlt
      obtain ⟨b0, off, rfl⟩ := hl.at_ k (by rw [List.length_map]; exact hkl)
      have c0 := hl.cell b0 off rfl k (by rw [List.length_map]; exact hkl)
      rw [List.getElem_map] at c0
      have hbl := World.block_lt_of_cell? _ _ c0
      have hmem := hs _ (List.getElem_mem hkl)
      obtain ⟨u, hu⟩ : ∃ u, Hid (l[k] = u) := ⟨_, Lib.hid rfl⟩
      rw [hu.out] at c0 hmem
      have Hc := Lib.hid (Hin.out u)
      rw [decide_eq_true hmem] at Hc
      clear hmem
      go_wp2_with (fail)
      refine Hc.out.mono ?_
      rintro e w1 ⟨rfl, rfl⟩
      go_wp2_with (fail)
      exact ⟨⟨k + 1, by omega, by go_num, by first | rfl | trivial⟩, by simp [RowKit.intOf]; omega⟩
    · have hke : k = L := by omega
      have hkI : ¬ (k : Int) < (L : Int) := by omega
      clear hke
      go_wp2_with (fail)
      exact bodyPost_ret (v := .bool true) (by simp [results, Try.results36, go_sem]; try first | rfl | assumption | omega) rfl ⟨rfl, rfl⟩
set_option maxRecDepth 100000 in
set_option maxHeartbeats 16000000 in
theorem lawGrow_any (d : CfD) (w : World) (hd : CfAt w d) (h1 : ∀ t ∈ d.toks, t.size ≤ maxLen) (h2 : ∀ t ∈ d.names, t.size ≤ maxLen) (h3 : ∀ r ∈ d.alts, ∀ a ∈ r.ds, ∀ x ∈ a.l, -9223372036854775808 ≤ x ∧ x ≤ 9223372036854775807) (hs : d.toks.length + d.names.length + szC (d.alts.map IrD.p) ≤ 1000000000000) :
    Calls Try.prog 6 #[d.v] w fun e w' => e = .returned (.bool true) ∧ Below w.heap.size w w' := by
  have HF := Lib.hid (fun W (hb : Below w.heap.size w W) => few9_any d W (hd.grown hb) h1 h2 h3 hs)
  have HSn := Lib.hid (fun (hf : FitC d) W (hb : Below w.heap.size w W) => sNullable_any d W (hd.grown hb) hf)
  have HSf := Lib.hid (fun (hf : FitC d) W (hb : Below w.heap.size w W) => sFirst_any d W (hd.grown hb) hf)
  have HSg := Lib.hid (fun (hf : FitC d) W (hb : Below w.heap.size w W) => sFollow_any d W (hd.grown hb) hf)
  have HSs := Lib.hid (fun (hf : FitC d) W (hb : Below w.heap.size w W) => short_any d W (hd.grown hb) hf)
  have Hld := Lib.hid (fun (hf : FitC d) W (hb : Below w.heap.size w W) (s : List Int) sa sc (hs : Ints W sa sc s) (hok : OkL d.toks.length d.alts.length s) (hsl : s.length ≤ 1000) => sLead_any d s sa sc W (hd.grown hb) hf hs hok hsl)
  have Hfit : Hid (few9 d = true → FitC d) := Lib.hid few9_fit
  have hAl : Hid (∀ k (h : k < d.alts.length), (d.alts.map IrD.p).getD k [] = (d.alts[k]).ds.map (fun x => x.l)) := Lib.hid (fun k h => by
    rw [List.getD_eq_getElem?_getD, List.getElem?_map, List.getElem?_eq_getElem h]
    rfl)
  have hAo : ∀ r, (d.alts.map IrD.p).length ≤ r → (d.alts.map IrD.p).getD r [] = [] := fun r h => by
    rw [List.getD_eq_getElem?_getD, List.getElem?_eq_none h]
    rfl
  have Hnn := Lib.hid (fun r => sh_nul (al := d.alts.map IrD.p) hAo (r := r))
  obtain ⟨B, hB⟩ : ∃ q, Hid (few9 d = q) := ⟨_, Lib.hid rfl⟩
  rw [hB.out] at HF Hfit
  obtain ⟨xt, xta, xtc, xn, xna, xnc, xa, xaa, xac⟩ := d
  obtain ⟨hx1, hx2, hx3, hx4⟩ := hd
  dsimp only [CfD.v] at *
  have hb1 : Below w.heap.size w (w.alloc (.cells #[.slice xta xt.length xtc, .slice xna xn.length xnc, .slice xaa xa.length xac] 41)) := (Below.refl _ w).alloc (Nat.le_refl _) _
  have hA := Blk.new w 41 #[.slice xta xt.length xtc, .slice xna xn.length xnc, .slice xaa xa.length xac]
  have hxm : xa.length ≤ xac ∧ xac ≤ 9223372036854775807 := ⟨by have := hx3.le; rwa [List.length_map] at this, hx3.max⟩
  have htm : xt.length ≤ xtc ∧ xtc ≤ 9223372036854775807 := ⟨by have := hx1.le; rwa [List.length_map] at this, hx1.max⟩
  have HX3 := Lib.hid hx3
  have HX4 := Lib.hid hx4
  have HG : Hid (B = true → 0 < xa.length ∧ xa.length ≤ 60 ∧ (∀ r ∈ xa, r.ds.length ≤ 30) ∧ ∀ r ∈ xa, ∀ x ∈ r.ds, x.l.length ≤ 30 ∧ OkL xt.length xa.length x.l) := Lib.hid (fun h => ⟨(Hfit.out h).r0, (Hfit.out h).r, (Hfit.out h).a, (Hfit.out h).l⟩)
  have hpl : (xa.map IrD.p).length = xa.length := List.length_map _
  obtain ⟨al, hal9⟩ : ∃ q, Hid (xa.map IrD.p = q) := ⟨_, Lib.hid rfl⟩
  rw [hal9.out] at hAl HSn HSf HSg HSs Hld Hnn hpl
  obtain ⟨f, hf9⟩ : ∃ v, Hid (nulB al = v) := ⟨_, Lib.hid rfl⟩
  rw [hf9.out] at HSn HSf HSg Hld Hnn
  obtain ⟨F, hF9⟩ : ∃ v, Hid (shP al = v) := ⟨_, Lib.hid rfl⟩
  rw [hF9.out] at HSs Hnn
  have Hnul : Hid (∀ r, r < al.length → ∀ a ∈ al.getD r [], emp f a = true → f r = true) := Lib.hid (fun r hr a ha he => by
    rw [← hf9.out] at he ⊢
    exact (nul_iff hr).2 ⟨a, ha, he⟩)
  obtain ⟨T, HT⟩ : ∃ q, Hid (xt.length = q) := ⟨_, Lib.hid rfl⟩
  obtain ⟨N, HN⟩ : ∃ q, Hid (xn.length = q) := ⟨_, Lib.hid rfl⟩
  obtain ⟨L, HL⟩ : ∃ q, Hid (xa.length = q) := ⟨_, Lib.hid rfl⟩
  rw [HT.out, HN.out, HL.out] at hA hb1 HF HSn HSf HSs Hld ⊢
  rw [HT.out, HN.out, HL.out] at HSg
  rw [HL.out] at hxm HG hpl
  rw [HT.out] at HG htm
  have Hpl := Lib.hid hpl
  obtain ⟨Fit, hFit⟩ : ∃ v, Hid (FitC ⟨xt, xta, xtc, xn, xna, xnc, xa, xaa, xac⟩ = v) := ⟨_, Lib.hid rfl⟩
  rw [hFit.out] at Hfit HSn HSf HSg HSs Hld
  have HF' : Hid (∀ W, Below w.heap.size w W → Calls Try.prog 20 #[.agg #[.slice xta T xtc, .slice xna N xnc, .slice xaa L xac]] W fun e w' => e = .returned (.bool B) ∧ Below W.heap.size W w') := HF
  have x0 := hA.cell 0
  have x1 := hA.cell 1
  have x2 := hA.cell 2
  have xl := hA.lt
  simp only [List.getElem?_cons_zero, List.getElem?_cons_succ] at x0 x1 x2
  have HA := Lib.hid hA
  have Hb1 := Lib.hid hb1
  clear hA hx1 hx2 hx3 hx4 hb1 h1 h2 h3 hs HF hpl hAo
  go_enter Try.func6, Try.ntmps6
  go_wp2_with (fail)
  obtain ⟨bx, hbx⟩ : ∃ q, Hid (w.heap.size = q) := ⟨_, Lib.hid rfl⟩
  rw [hbx.out] at HA xl x0 x1 x2 ⊢
  generalize hV : World.alloc w _ = V1 at HA x0 x1 x2 xl Hb1 ⊢
  clear hV
  refine (live9_any V1).mono ?_
  rintro e w2 ⟨rfl, hb⟩
  have HA2 := Lib.hid (HA.out.below hb HA.out.lt)
  have Hb2 := Lib.hid (Hb1.out.trans (hb.mono Hb1.out.size))
  clear x0 x1 x2 xl hb
  have x0 := HA2.out.cell 0
  have x1 := HA2.out.cell 1
  have x2 := HA2.out.cell 2
  have xl := HA2.out.lt
  simp only [List.getElem?_cons_zero, List.getElem?_cons_succ] at x0 x1 x2
  go_wp2_with (fail)
  refine (HF'.out w2 Hb2.out).mono ?_
  rintro e w3 ⟨rfl, hb⟩
  have HA3 := Lib.hid (HA2.out.below hb HA2.out.lt)
  have Hb3 := Lib.hid (Hb2.out.trans (hb.mono Hb2.out.size))
  clear x0 x1 x2 xl hb HF'
  cases B
  · go_wp2_with (fail)
    exact bodyPost_ret (v := .bool true) (by simp [results, Try.results6, go_sem]; try first | rfl | assumption | omega) rfl ⟨rfl, Hb3.out⟩
  have hfit := Hfit.out rfl
  obtain ⟨hl0, hl60, hf4, hf5⟩ := HG.out rfl
  have HF4 := Lib.hid hf4
  have HF5 := Lib.hid hf5
  have HSn2 := Lib.hid (HSn.out hfit)
  have HSf2 := Lib.hid (HSf.out hfit)
  have HSg2 := Lib.hid (HSg.out hfit)
  have HSs2 := Lib.hid (HSs.out hfit)
  have Hld2 := Lib.hid (Hld.out hfit)
  clear HG HSn HSf HSg HSs Hld hf4 hf5 Hfit hfit
  have x0 := HA3.out.cell 0
  have x1 := HA3.out.cell 1
  have x2 := HA3.out.cell 2
  have xl := HA3.out.lt
  simp only [List.getElem?_cons_zero, List.getElem?_cons_succ] at x0 x1 x2
  go_wp2_with (fail)
  refine (HSn2.out w3 Hb3.out).mono ?_
  rintro e w4 ⟨na, nc, rfl, ho, hb⟩
  have Hn4 := Lib.hid ho.bls
  have HA4 := Lib.hid (HA3.out.below hb HA3.out.lt)
  have Hb4 := Lib.hid (Hb3.out.trans (hb.mono Hb3.out.size))
  clear x0 x1 x2 xl hb ho HSn2
  have x0 := HA4.out.cell 0
  have x1 := HA4.out.cell 1
  have x2 := HA4.out.cell 2
  have xl := HA4.out.lt
  simp only [List.getElem?_cons_zero, List.getElem?_cons_succ] at x0 x1 x2
  go_wp2_with (fail)
  refine (HSf2.out w4 Hb4.out).mono ?_
  rintro e w5 ⟨fa, fc, ds, rfl, hdl, hal, hri, hb⟩
  have Hdl := Lib.hid hdl
  have Hri := Lib.hid hri
  have Hf5 := Lib.hid hal
  have Hn5 := Lib.hid (Vs.grown Hn4.out hb)
  have HA5 := Lib.hid (HA4.out.below hb HA4.out.lt)
  have Hb5 := Lib.hid (Hb4.out.trans (hb.mono Hb4.out.size))
  clear x0 x1 x2 xl hb hal hdl hri HSf2
  have x0 := HA5.out.cell 0
  have x1 := HA5.out.cell 1
  have x2 := HA5.out.cell 2
  have xl := HA5.out.lt
  simp only [List.getElem?_cons_zero, List.getElem?_cons_succ] at x0 x1 x2
  go_wp2_with (fail)
  refine (HSg2.out w5 Hb5.out).mono ?_
  rintro e w6 ⟨ga, gc, es, rfl, hdl, hal, hri, hb⟩
  have Hel := Lib.hid hdl
  have Hrg := Lib.hid hri
  have Hg6 := Lib.hid hal
  have Hf6 := Lib.hid (Hf5.out.grown hb)
  have Hn6 := Lib.hid (Vs.grown Hn5.out hb)
  have HA6 := Lib.hid (HA5.out.below hb HA5.out.lt)
  have Hb6 := Lib.hid (Hb5.out.trans (hb.mono Hb5.out.size))
  clear x0 x1 x2 xl hb hal hdl hri HSg2
  have x0 := HA6.out.cell 0
  have x1 := HA6.out.cell 1
  have x2 := HA6.out.cell 2
  have xl := HA6.out.lt
  simp only [List.getElem?_cons_zero, List.getElem?_cons_succ] at x0 x1 x2
  go_wp2_with (fail)
  refine (HSs2.out w6 Hb6.out).mono ?_
  rintro e w7 ⟨sa, sc, rfl, ho, hb⟩
  have Hs7 := Lib.hid ho.nus
  have Hg7 := Lib.hid (Hg6.out.grown hb)
  have Hf7 := Lib.hid (Hf6.out.grown hb)
  have Hn7 := Lib.hid (Vs.grown Hn6.out hb)
  have HA7 := Lib.hid (HA6.out.below hb HA6.out.lt)
  have Hb7 := Lib.hid (Hb6.out.trans (hb.mono Hb6.out.size))
  clear x0 x1 x2 xl hb ho HSs2
  have hnm : L ≤ nc ∧ nc ≤ 9223372036854775807 := ⟨by have := Hn7.out.le; simpa using this, Hn7.out.max⟩
  have hsm : L ≤ sc ∧ sc ≤ 9223372036854775807 := ⟨by have := Hs7.out.le; simpa using this, Hs7.out.max⟩
  have hfm : L ≤ fc ∧ fc ≤ 9223372036854775807 := ⟨by have := Hf7.out.row.le; rw [List.length_map, Hdl.out] at this; exact this, Hf7.out.row.max⟩
  have hgm : L ≤ gc ∧ gc ≤ 9223372036854775807 := ⟨by have := Hg7.out.row.le; rw [List.length_map, Hel.out] at this; exact this, Hg7.out.row.max⟩
  -- what follows the first rule
  have he0 : 0 < es.length := by rw [Hel.out]; exact hl0
  obtain ⟨g0, go, hg0⟩ := Hg7.out.row.at_ 0 (by rw [List.length_map]; exact he0)
  have cg0 := Hg7.out.row.cell g0 go hg0 0 (by rw [List.length_map]; exact he0)
  rw [List.getElem_map] at cg0
  have Hi0 := Lib.hid (Hg7.out.nms _ (List.getElem_mem he0))
  have hT0 : (T : Int) ∈ (es[0]).l := ((Hrg.out 0 he0).mem T).2 fol_end
  obtain ⟨e0, hee⟩ : ∃ v, Hid (es[0] = v) := ⟨_, Lib.hid rfl⟩
  rw [hee.out] at cg0 Hi0 hT0
  obtain ⟨l0, la0, lc0⟩ := e0
  change _ = some (Value.slice la0 l0.length lc0) at cg0
  dsimp only at Hi0 hT0
  have Hin0 := Lib.hid (in9_any l0 la0 lc0 (T : Int) w7.drew (Hi0.out.grown (Below.refl _ w7).drew))
  rw [decide_eq_true hT0] at Hin0
  obtain ⟨L0, hL0⟩ : ∃ v, Hid (l0.length = v) := ⟨_, Lib.hid rfl⟩
  rw [hL0.out] at Hin0 cg0
  have HS0 : Hid (w7.drew.cell? ⟨g0, go, none⟩ = some (.slice la0 L0 lc0) ∧ w7.drew.cell? ⟨bx, 0, none⟩ = some (.slice xta T xtc)) := Lib.hid ⟨cg0, HA7.out.cell 0⟩
  subst hg0
  clear cg0 hT0
  have x2 := HA7.out.cell 2
  have xl := HA7.out.lt
  have hlI0 : (0 : Int) < (L : Int) := by omega
  simp only [List.getElem?_cons_zero, List.getElem?_cons_succ] at x2
  go_wp2_with (fail)
  refine wp_region_held_drew (S := fun w' => w'.cell? ⟨g0, go, none⟩ = some (.slice la0 L0 lc0) ∧ w'.cell? ⟨bx, 0, none⟩ = some (.slice xta T xtc)) (by kernel_rfl) ?_ (fun hHeld => ?_)
  · exact HS0.out
  refine wpAnyH_take (i := 0) (v := ?_) (iatLS iatZS) (by kernel_rfl) (by kernel_rfl) (by kernel_rfl) (fun _ _ _ h => h) (Or.inl ⟨by rfl, ?_⟩) (by assumption) ?_
  rotate_left
  · intro w hSw
    try dsimp only at hSw
    go_simp
    all_goals with_reducible rfl
  try simp only [Act.put, List.setIfInBounds_toArray, List.set_cons_zero, List.set_cons_succ]
  refine wpAnyH_take (i := 1) (v := ?_) (iatLS (iatSS iatZS)) (by kernel_rfl) (by kernel_rfl) (by kernel_rfl) (fun _ _ _ h => h) (Or.inl ⟨by rfl, ?_⟩) (by assumption) ?_
  rotate_left
  · intro w hSw
    try dsimp only at hSw
    go_simp
    all_goals with_reducible rfl
  try simp only [Act.put, List.setIfInBounds_toArray, List.set_cons_zero, List.set_cons_succ]
  refine wpAnyH_take (i := 2) (v := ?_) (iatLS (iatSS (iatSS iatZS))) (by kernel_rfl) (by kernel_rfl) (by kernel_rfl) (fun _ _ _ h => h) (Or.inl ⟨by rfl, ?_⟩) (by assumption) ?_
  rotate_left
  · intro w hSw
    try dsimp only at hSw
    go_simp
    all_goals with_reducible rfl
  try simp only [Act.put, List.setIfInBounds_toArray, List.set_cons_zero, List.set_cons_succ]
  refine wpAnyH_take (i := 3) (v := ?_) (iatLS (iatSS (iatSS (iatSS iatZS)))) (by kernel_rfl) (by kernel_rfl) (by kernel_rfl) (fun _ _ _ h => h) (Or.inl ⟨by rfl, ?_⟩) (by assumption) ?_
  rotate_left
  · intro w hSw
    try dsimp only at hSw
    go_simp
    all_goals with_reducible rfl
  try simp only [Act.put, List.setIfInBounds_toArray, List.set_cons_zero, List.set_cons_succ]
  refine wpAnyH_take (i := 4) (v := ?_) (iatLS (iatSS (iatSS (iatSS (iatSS iatZS))))) (by kernel_rfl) (by kernel_rfl) (by kernel_rfl) (fun _ _ _ h => h) (Or.inl ⟨by rfl, ?_⟩) (by assumption) ?_
  rotate_left
  · intro w hSw
    try dsimp only at hSw
    go_simp
    all_goals with_reducible rfl
  try simp only [Act.put, List.setIfInBounds_toArray, List.set_cons_zero, List.set_cons_succ]
  refine wpAnyH_take (i := 5) (v := ?_) (iatLS (iatSS (iatSS (iatSS (iatSS (iatSS iatZS)))))) (by kernel_rfl) (by kernel_rfl) (by kernel_rfl) (fun _ _ _ h => h) (Or.inl ⟨by rfl, ?_⟩) (by assumption) ?_
  rotate_left
  · intro w hSw
    try dsimp only at hSw
    go_simp
    all_goals with_reducible rfl
  try simp only [Act.put, List.setIfInBounds_toArray, List.set_cons_zero, List.set_cons_succ]
  refine wpAnyH_take (i := 6) (v := ?_) (iatLS (iatSS (iatSS (iatSS (iatSS (iatSS (iatSS iatZS))))))) (by kernel_rfl) (by kernel_rfl) (by kernel_rfl) (fun _ _ _ h => h) (Or.inl ⟨by rfl, ?_⟩) (by assumption) ?_
  rotate_left
  · intro w hSw
    try dsimp only at hSw
    go_simp
    all_goals with_reducible rfl
  try simp only [Act.put, List.setIfInBounds_toArray, List.set_cons_zero, List.set_cons_succ]
  refine wpAnyH_take (i := 7) (v := ?_) (iatLS (iatSS (iatSS (iatSS (iatSS (iatSS (iatSS (iatSS iatZS)))))))) (by kernel_rfl) (by kernel_rfl) (by kernel_rfl) (fun _ _ _ h => h) (Or.inl ⟨by rfl, ?_⟩) (by assumption) ?_
  rotate_left
  · intro w hSw
    try dsimp only at hSw
    go_simp
    all_goals with_reducible rfl
  try simp only [Act.put, List.setIfInBounds_toArray, List.set_cons_zero, List.set_cons_succ]
  refine wpAnyH_take (i := 8) (v := ?_) (iatLS (iatSS (iatSS (iatSS (iatSS (iatSS (iatSS (iatSS (iatSS iatZS))))))))) (by kernel_rfl) (by kernel_rfl) (by kernel_rfl) (fun _ _ _ h => h) (Or.inl ⟨by rfl, ?_⟩) (by assumption) ?_
  rotate_left
  · intro w hSw
    try dsimp only at hSw
    go_simp
    all_goals with_reducible rfl
  try simp only [Act.put, List.setIfInBounds_toArray, List.set_cons_zero, List.set_cons_succ]
  refine wpAnyH_take (i := 9) (v := ?_) (iatLS (iatSS (iatSS (iatSS (iatSS (iatSS (iatSS (iatSS (iatSS (iatSS iatZS)))))))))) (by kernel_rfl) (by kernel_rfl) (by kernel_rfl) (fun _ _ _ h => h) (Or.inl ⟨by rfl, ?_⟩) (by assumption) ?_
  rotate_left
  · intro w hSw
    try dsimp only at hSw
    go_simp
    all_goals with_reducible rfl
  try simp only [Act.put, List.setIfInBounds_toArray, List.set_cons_zero, List.set_cons_succ]
  refine wpAnyH_take (i := 10) (v := ?_) (iatLS (iatSS (iatSS (iatSS (iatSS (iatSS (iatSS (iatSS (iatSS (iatSS (iatSS iatZS))))))))))) (by kernel_rfl) (by kernel_rfl) (by kernel_rfl) (fun _ _ _ h => h) (Or.inl ⟨by rfl, ?_⟩) (by assumption) ?_
  rotate_left
  · intro w hSw
    try dsimp only at hSw
    go_simp
    all_goals with_reducible rfl
  try simp only [Act.put, List.setIfInBounds_toArray, List.set_cons_zero, List.set_cons_succ]
  refine wpAnyH_take (i := 11) (v := ?_) (iatLS (iatSS (iatSS (iatSS (iatSS (iatSS (iatSS (iatSS (iatSS (iatSS (iatSS (iatSS iatZS)))))))))))) (by kernel_rfl) (by kernel_rfl) (by kernel_rfl) (fun _ _ _ h => h) (Or.inl ⟨by rfl, ?_⟩) (by assumption) ?_
  rotate_left
  · intro w hSw
    try dsimp only at hSw
    go_simp
    all_goals with_reducible rfl
  try simp only [Act.put, List.setIfInBounds_toArray, List.set_cons_zero, List.set_cons_succ]
  refine wpAnyH_take (i := 12) (v := ?_) (iatLS (iatSS (iatSS (iatSS (iatSS (iatSS (iatSS (iatSS (iatSS (iatSS (iatSS (iatSS (iatSS iatZS))))))))))))) (by kernel_rfl) (by kernel_rfl) (by kernel_rfl) (fun _ _ _ h => h) (Or.inl ⟨by rfl, ?_⟩) (by assumption) ?_
  rotate_left
  · intro w hSw
    try dsimp only at hSw
    go_simp
    all_goals with_reducible rfl
  try simp only [Act.put, List.setIfInBounds_toArray, List.set_cons_zero, List.set_cons_succ]
  refine wpAnyH_take (i := 13) (v := ?_) (iatLS (iatSS (iatSS (iatSS (iatSS (iatSS (iatSS (iatSS (iatSS (iatSS (iatSS (iatSS (iatSS (iatSS iatZS)))))))))))))) (by kernel_rfl) (by kernel_rfl) (by kernel_rfl) (fun _ _ _ h => h) (Or.inl ⟨by rfl, ?_⟩) (by assumption) ?_
  rotate_left
  · intro w hSw
    try dsimp only at hSw
    go_simp
    all_goals with_reducible rfl
  try simp only [Act.put, List.setIfInBounds_toArray, List.set_cons_zero, List.set_cons_succ]
  refine wpAnyH_take (i := 14) (v := ?_) (iatLS (iatSS (iatSS (iatSS (iatSS (iatSS (iatSS (iatSS (iatSS (iatSS (iatSS (iatSS (iatSS (iatSS (iatSS iatZS))))))))))))))) (by kernel_rfl) (by kernel_rfl) (by kernel_rfl) (fun _ _ _ h => h) (Or.inl ⟨by rfl, ?_⟩) (by assumption) ?_
  rotate_left
  · intro w hSw
    try dsimp only at hSw
    go_simp
    all_goals with_reducible rfl
  try simp only [Act.put, List.setIfInBounds_toArray, List.set_cons_zero, List.set_cons_succ]
  refine wpAnyH_take (i := 15) (v := ?_) (iatLS (iatSS (iatSS (iatSS (iatSS (iatSS (iatSS (iatSS (iatSS (iatSS (iatSS (iatSS (iatSS (iatSS (iatSS (iatSS iatZS)))))))))))))))) (by kernel_rfl) (by kernel_rfl) (by kernel_rfl) (fun _ _ _ h => h) (Or.inl ⟨by rfl, ?_⟩) (by assumption) ?_
  rotate_left
  · intro w hSw
    try dsimp only at hSw
    go_simp
    all_goals with_reducible rfl
  try simp only [Act.put, List.setIfInBounds_toArray, List.set_cons_zero, List.set_cons_succ]
  refine wpAnyH_take (i := 16) (v := ?_) (iatLS (iatSS (iatSS (iatSS (iatSS (iatSS (iatSS (iatSS (iatSS (iatSS (iatSS (iatSS (iatSS (iatSS (iatSS (iatSS (iatSS iatZS))))))))))))))))) (by kernel_rfl) (by kernel_rfl) (by kernel_rfl) (fun _ _ _ h => h) (Or.inl ⟨by rfl, ?_⟩) (by assumption) ?_
  rotate_left
  · intro w hSw
    try dsimp only at hSw
    go_simp
    all_goals with_reducible rfl
  try simp only [Act.put, List.setIfInBounds_toArray, List.set_cons_zero, List.set_cons_succ]
  refine wpAnyH_take (i := 17) (v := ?_) (iatLS (iatSS (iatSS (iatSS (iatSS (iatSS (iatSS (iatSS (iatSS (iatSS (iatSS (iatSS (iatSS (iatSS (iatSS (iatSS (iatSS (iatSS iatZS)))))))))))))))))) (by kernel_rfl) (by kernel_rfl) (by kernel_rfl) (fun _ _ _ h => h) (Or.inl ⟨by rfl, ?_⟩) (by assumption) ?_
  rotate_left
  · intro w hSw
    try dsimp only at hSw
    go_simp
    all_goals with_reducible rfl
  try simp only [Act.put, List.setIfInBounds_toArray, List.set_cons_zero, List.set_cons_succ]
  refine wpAnyH_take (i := 18) (v := ?_) (iatLS (iatSS (iatSS (iatSS (iatSS (iatSS (iatSS (iatSS (iatSS (iatSS (iatSS (iatSS (iatSS (iatSS (iatSS (iatSS (iatSS (iatSS (iatSS iatZS))))))))))))))))))) (by kernel_rfl) (by kernel_rfl) (by kernel_rfl) (fun _ _ _ h => h) (Or.inl ⟨by rfl, ?_⟩) (by assumption) ?_
  rotate_left
  · intro w hSw
    try dsimp only at hSw
    go_simp
    all_goals with_reducible rfl
  try simp only [Act.put, List.setIfInBounds_toArray, List.set_cons_zero, List.set_cons_succ]
  refine wpAnyH_take (i := 19) (v := ?_) (iatLS (iatSS (iatSS (iatSS (iatSS (iatSS (iatSS (iatSS (iatSS (iatSS (iatSS (iatSS (iatSS (iatSS (iatSS (iatSS (iatSS (iatSS (iatSS (iatSS iatZS)))))))))))))))))))) (by kernel_rfl) (by kernel_rfl) (by kernel_rfl) (fun _ _ _ h => h) (Or.inl ⟨by rfl, ?_⟩) (by assumption) ?_
  rotate_left
  · intro w hSw
    try dsimp only at hSw
    go_simp
    all_goals with_reducible rfl
  try simp only [Act.put, List.setIfInBounds_toArray, List.set_cons_zero, List.set_cons_succ]
  refine wpAnyH_take (i := 20) (v := ?_) (iatLS (iatSS (iatSS (iatSS (iatSS (iatSS (iatSS (iatSS (iatSS (iatSS (iatSS (iatSS (iatSS (iatSS (iatSS (iatSS (iatSS (iatSS (iatSS (iatSS (iatSS iatZS))))))))))))))))))))) (by kernel_rfl) (by kernel_rfl) (by kernel_rfl) (fun _ _ _ h => h) (Or.inl ⟨by rfl, ?_⟩) (by assumption) ?_
  rotate_left
  · intro w hSw
    try dsimp only at hSw
    go_simp
    all_goals with_reducible rfl
  try simp only [Act.put, List.setIfInBounds_toArray, List.set_cons_zero, List.set_cons_succ]
  refine wpAnyH_take (i := 21) (v := ?_) (iatLS (iatSS (iatSS (iatSS (iatSS (iatSS (iatSS (iatSS (iatSS (iatSS (iatSS (iatSS (iatSS (iatSS (iatSS (iatSS (iatSS (iatSS (iatSS (iatSS (iatSS (iatSS iatZS)))))))))))))))))))))) (by kernel_rfl) (by kernel_rfl) (by kernel_rfl) (fun _ _ _ h => h) (Or.inl ⟨by rfl, ?_⟩) (by assumption) ?_
  rotate_left
  · intro w hSw
    try dsimp only at hSw
    go_simp
    all_goals with_reducible rfl
  try simp only [Act.put, List.setIfInBounds_toArray, List.set_cons_zero, List.set_cons_succ]
  refine wpAnyH_take (i := 22) (v := ?_) (iatLS (iatSS (iatSS (iatSS (iatSS (iatSS (iatSS (iatSS (iatSS (iatSS (iatSS (iatSS (iatSS (iatSS (iatSS (iatSS (iatSS (iatSS (iatSS (iatSS (iatSS (iatSS (iatSS iatZS))))))))))))))))))))))) (by kernel_rfl) (by kernel_rfl) (by kernel_rfl) (fun _ _ _ h => h) (Or.inl ⟨by rfl, ?_⟩) (by assumption) ?_
  rotate_left
  · intro w hSw
    try dsimp only at hSw
    go_simp
    all_goals with_reducible rfl
  try simp only [Act.put, List.setIfInBounds_toArray, List.set_cons_zero, List.set_cons_succ]
  refine wpAnyH_take (i := 23) (v := ?_) (iatLS (iatSS (iatSS (iatSS (iatSS (iatSS (iatSS (iatSS (iatSS (iatSS (iatSS (iatSS (iatSS (iatSS (iatSS (iatSS (iatSS (iatSS (iatSS (iatSS (iatSS (iatSS (iatSS (iatSS iatZS)))))))))))))))))))))))) (by kernel_rfl) (by kernel_rfl) (by kernel_rfl) (fun _ _ _ h => h) (Or.inl ⟨by rfl, ?_⟩) (by assumption) ?_
  rotate_left
  · intro w hSw
    try dsimp only at hSw
    go_simp
    all_goals with_reducible rfl
  try simp only [Act.put, List.setIfInBounds_toArray, List.set_cons_zero, List.set_cons_succ]
  refine wpAnyH_take (i := 24) (v := ?_) (iatLS (iatSS (iatSS (iatSS (iatSS (iatSS (iatSS (iatSS (iatSS (iatSS (iatSS (iatSS (iatSS (iatSS (iatSS (iatSS (iatSS (iatSS (iatSS (iatSS (iatSS (iatSS (iatSS (iatSS (iatSS iatZS))))))))))))))))))))))))) (by kernel_rfl) (by kernel_rfl) (by kernel_rfl) (fun _ _ _ h => h) (Or.inl ⟨by rfl, ?_⟩) (by assumption) ?_
  rotate_left
  · intro w hSw
    try dsimp only at hSw
    go_simp
    all_goals with_reducible rfl
  try simp only [Act.put, List.setIfInBounds_toArray, List.set_cons_zero, List.set_cons_succ]
  refine wpAnyH_take (i := 25) (v := ?_) (iatLS (iatSS (iatSS (iatSS (iatSS (iatSS (iatSS (iatSS (iatSS (iatSS (iatSS (iatSS (iatSS (iatSS (iatSS (iatSS (iatSS (iatSS (iatSS (iatSS (iatSS (iatSS (iatSS (iatSS (iatSS (iatSS iatZS)))))))))))))))))))))))))) (by kernel_rfl) (by kernel_rfl) (by kernel_rfl) (fun _ _ _ h => h) (Or.inl ⟨by rfl, ?_⟩) (by assumption) ?_
  rotate_left
  · intro w hSw
    try dsimp only at hSw
    go_simp
    all_goals with_reducible rfl
  try simp only [Act.put, List.setIfInBounds_toArray, List.set_cons_zero, List.set_cons_succ]
  refine wpAnyH_take (i := 26) (v := ?_) (iatLS (iatSS (iatSS (iatSS (iatSS (iatSS (iatSS (iatSS (iatSS (iatSS (iatSS (iatSS (iatSS (iatSS (iatSS (iatSS (iatSS (iatSS (iatSS (iatSS (iatSS (iatSS (iatSS (iatSS (iatSS (iatSS (iatSS iatZS))))))))))))))))))))))))))) (by kernel_rfl) (by kernel_rfl) (by kernel_rfl) (fun _ _ _ h => h) (Or.inl ⟨by rfl, ?_⟩) (by assumption) ?_
  rotate_left
  · intro w hSw
    try dsimp only at hSw
    go_simp
    all_goals with_reducible rfl
  try simp only [Act.put, List.setIfInBounds_toArray, List.set_cons_zero, List.set_cons_succ]
  refine wpAnyH_take (i := 27) (v := ?_) (iatLS (iatSS (iatSS (iatSS (iatSS (iatSS (iatSS (iatSS (iatSS (iatSS (iatSS (iatSS (iatSS (iatSS (iatSS (iatSS (iatSS (iatSS (iatSS (iatSS (iatSS (iatSS (iatSS (iatSS (iatSS (iatSS (iatSS (iatSS iatZS)))))))))))))))))))))))))))) (by kernel_rfl) (by kernel_rfl) (by kernel_rfl) (fun _ _ _ h => h) (Or.inl ⟨by rfl, ?_⟩) (by assumption) ?_
  rotate_left
  · intro w hSw
    try dsimp only at hSw
    go_simp
    all_goals with_reducible rfl
  try simp only [Act.put, List.setIfInBounds_toArray, List.set_cons_zero, List.set_cons_succ]
  refine wpAnyH_take (i := 28) (v := ?_) (iatLS (iatSS (iatSS (iatSS (iatSS (iatSS (iatSS (iatSS (iatSS (iatSS (iatSS (iatSS (iatSS (iatSS (iatSS (iatSS (iatSS (iatSS (iatSS (iatSS (iatSS (iatSS (iatSS (iatSS (iatSS (iatSS (iatSS (iatSS (iatSS iatZS))))))))))))))))))))))))))))) (by kernel_rfl) (by kernel_rfl) (by kernel_rfl) (fun _ _ _ h => h) (Or.inl ⟨by rfl, ?_⟩) (by assumption) ?_
  rotate_left
  · intro w hSw
    try dsimp only at hSw
    go_simp
    all_goals with_reducible rfl
  try simp only [Act.put, List.setIfInBounds_toArray, List.set_cons_zero, List.set_cons_succ]
  refine wpAnyH_ready (rs := [29]) (by kernel_rfl) (by simp) ?_
  refine AllReadyH.cons (iatLS (iatSS (iatSS (iatSS (iatSS (iatSS (iatSS (iatSS (iatSS (iatSS (iatSS (iatSS (iatSS (iatSS (iatSS (iatSS (iatSS (iatSS (iatSS (iatSS (iatSS (iatSS (iatSS (iatSS (iatSS (iatSS (iatSS (iatSS (iatSS (iatSS iatZS)))))))))))))))))))))))))))))) (fun K hK => ?_) AllReadyH.nil
  go_simp
  (with_reducible refine Hin0.out.mono ?_)
  rintro e8 w8 ⟨rfl, rfl⟩
  try dsimp only
  refine hK.out _ _ ?_ (fun hHeld => ?_)
  · exact HS0.out
  clear hK K
  try simp only [Act.put, List.setIfInBounds_toArray, List.set_cons_zero, List.set_cons_succ]
  refine wpAnyH_take (i := 30) (v := ?_) (iatLS (iatSS (iatSS (iatSS (iatSS (iatSS (iatSS (iatSS (iatSS (iatSS (iatSS (iatSS (iatSS (iatSS (iatSS (iatSS (iatSS (iatSS (iatSS (iatSS (iatSS (iatSS (iatSS (iatSS (iatSS (iatSS (iatSS (iatSS (iatSS (iatSS (iatSS iatZS))))))))))))))))))))))))))))))) (by kernel_rfl) (by kernel_rfl) (by kernel_rfl) (fun _ _ _ h => h) (Or.inl ⟨by rfl, ?_⟩) (by assumption) ?_
  rotate_left
  · intro w hSw
    try dsimp only at hSw
    go_simp
    all_goals with_reducible rfl
  try simp only [Act.put, List.setIfInBounds_toArray, List.set_cons_zero, List.set_cons_succ]
  refine wpAnyH_take (i := 31) (v := ?_) (iatLS (iatSS (iatSS (iatSS (iatSS (iatSS (iatSS (iatSS (iatSS (iatSS (iatSS (iatSS (iatSS (iatSS (iatSS (iatSS (iatSS (iatSS (iatSS (iatSS (iatSS (iatSS (iatSS (iatSS (iatSS (iatSS (iatSS (iatSS (iatSS (iatSS (iatSS (iatSS iatZS)))))))))))))))))))))))))))))))) (by kernel_rfl) (by kernel_rfl) (by kernel_rfl) (fun _ _ _ h => h) (Or.inl ⟨by rfl, ?_⟩) (by assumption) ?_
  rotate_left
  · intro w hSw
    try dsimp only at hSw
    go_simp
    all_goals with_reducible rfl
  try simp only [Act.put, List.setIfInBounds_toArray, List.set_cons_zero, List.set_cons_succ]
  refine wpAnyH_done (by kernel_rfl) ?_ _
  generalize hw8 : w7.drew = w8
  have Hd78 : Below w7.heap.size w7 w8 := by rw [← hw8]; exact (Below.refl _ w7).drew
  have HA8 := Lib.hid (HA7.out.below Hd78 HA7.out.lt)
  have Hb8 := Lib.hid (Hb7.out.trans (Hd78.mono Hb7.out.size))
  have Hn8 := Lib.hid (Vs.grown Hn7.out Hd78)
  have Hs8 := Lib.hid (Vs.grown Hs7.out Hd78)
  have Hf8 := Lib.hid (Hf7.out.grown Hd78)
  have Hg8 := Lib.hid (Hg7.out.grown Hd78)
  clear hw8 Hd78 HS0 Hin0 Hi0 hL0
  have x2 := HA8.out.cell 2
  have xl := HA8.out.lt
  simp only [List.getElem?_cons_zero, List.getElem?_cons_succ] at x2
  go_wp2_with (fail)
  clear x2 xl
  obtain ⟨n0, no, hn0⟩ := Hn8.out.at_ 0 (by simpa using hl0)
  obtain ⟨s0, so, hs0⟩ := Hs8.out.at_ 0 (by simpa using hl0)
  obtain ⟨f0, fo, hf0⟩ := Hf8.out.row.at_ 0 (by rw [List.length_map, Hdl.out]; exact hl0)
  obtain ⟨p, po, hp0⟩ := HX3.out.at_ 0 (by rw [List.length_map, HL.out]; exact hl0)
  subst hn0
  subst hs0
  subst hf0
  subst hp0
  go_loopw [70] (fun iv wr => ∃ k : Nat, k ≤ L ∧ iv = .int .i64 (k : Int) ∧ Below w8.heap.size w8 wr) (fun iv _ => L - (RowKit.intOf iv).toNat)
  case atStart => exact ⟨0, Nat.zero_le _, rfl, Below.refl _ _⟩
  case round =>
    obtain ⟨k, hk, rfl, hbr⟩ := hrel
    obtain ⟨U, rfl⟩ : ∃ U, U = wr := ⟨_, rfl⟩
    by_cases hlt : k < L
    · have hkI : (k : Int) < (L : Int) := by omega
      have hkI0 : (0 : Int) ≤ (k : Int) := by omega
      have hkl : k < xa.length := by rw [HL.out]; exact hlt
      have hbw := Hb8.out.trans (hbr.mono Hb8.out.size)
      have hrow := HX3.out.grown hbw
      have hst := hAl.out k hkl
      have cp := hrow.cell p po rfl k (by rw [List.length_map]; exact hkl)
      rw [List.getElem_map] at cp
      have hm : xa[k] ∈ xa := List.getElem_mem hkl
      obtain ⟨e, he⟩ : ∃ v, Hid (xa[k] = v) := ⟨_, Lib.hid rfl⟩
      rw [he.out] at cp hm hst
      have hblp := World.block_lt_of_cell? _ _ cp
      obtain ⟨ed, ea, ec⟩ := e
      change _ = some (Value.slice ea ed.length ec) at cp
      have hal : AltsI w ea ec ed := HX4.out _ hm
      have hdm : ed.length ≤ ec ∧ ec ≤ 9223372036854775807 := ⟨by have := hal.row.le; rwa [List.length_map] at this, hal.row.max⟩
      have hd30 : ed.length ≤ 30 := HF4.out _ hm
      have hok := Lib.hid (HF5.out _ hm)
      have Hal := Lib.hid hal
      have Hst := Lib.hid hst
      obtain ⟨M, hM⟩ : ∃ q, Hid (ed.length = q) := ⟨_, Lib.hid rfl⟩
      rw [hM.out] at cp hdm hd30
      have cn := (Vs.grown Hn8.out hbr).cell n0 no rfl k (by simpa using hlt)
      rw [range_at] at cn
      have cs := (Vs.grown Hs8.out hbr).cell s0 so rfl k (by simpa using hlt)
      rw [range_at] at cs
      have hnk := Hnn.out k
      obtain ⟨bk, hbk⟩ : ∃ v, Hid (f k = v) := ⟨_, Lib.hid rfl⟩
      obtain ⟨yk, hyk⟩ : ∃ v, Hid (F k = v) := ⟨_, Lib.hid rfl⟩
      rw [hbk.out] at cn hnk
      rw [hyk.out] at cs hnk
      have hqk : bk = (yk == 0) := by
        cases bk
        · have : yk ≠ 0 := fun e => by have := hnk.1 e; cases this
          exact (beq_eq_false_iff_ne.2 this).symm
        · have := hnk.2 rfl
          rw [this]; rfl
      subst hqk
      have HS14 : Hid (U.drew.cell? ⟨n0, no + k, none⟩ = some (.bool (yk == 0)) ∧ U.drew.cell? ⟨s0, so + k, none⟩ = some (.int .i64 yk)) := Lib.hid ⟨cn, cs⟩
      have Hbw := Lib.hid hbw
      clear hm hal hrow hst cn cs hnk hbw
      go_wp2_with (fail)
      clear cp hblp
      refine wp_region_held_drew (S := fun w' => w'.cell? ⟨n0, no + k, none⟩ = some (.bool (yk == 0)) ∧ w'.cell? ⟨s0, so + k, none⟩ = some (.int .i64 yk)) (by kernel_rfl) ?_ (fun hHeld => ?_)
      · exact HS14.out
      refine wpAnyH_take (i := 0) (v := ?_) (iatLS iatZS) (by kernel_rfl) (by kernel_rfl) (by kernel_rfl) (fun _ _ _ h => h) (Or.inl ⟨by rfl, ?_⟩) (by assumption) ?_
      rotate_left
      · intro w hSw
        try dsimp only at hSw
        go_simp
        all_goals with_reducible rfl
      try simp only [Act.put, List.setIfInBounds_toArray, List.set_cons_zero, List.set_cons_succ]
      refine wpAnyH_take (i := 1) (v := ?_) (iatLS (iatSS iatZS)) (by kernel_rfl) (by kernel_rfl) (by kernel_rfl) (fun _ _ _ h => h) (Or.inl ⟨by rfl, ?_⟩) (by assumption) ?_
      rotate_left
      · intro w hSw
        try dsimp only at hSw
        go_simp
        all_goals with_reducible rfl
      try simp only [Act.put, List.setIfInBounds_toArray, List.set_cons_zero, List.set_cons_succ]
      refine wpAnyH_take (i := 2) (v := ?_) (iatLS (iatSS (iatSS iatZS))) (by kernel_rfl) (by kernel_rfl) (by kernel_rfl) (fun _ _ _ h => h) (Or.inl ⟨by rfl, ?_⟩) (by assumption) ?_
      rotate_left
      · intro w hSw
        try dsimp only at hSw
        go_simp
        all_goals with_reducible rfl
      try simp only [Act.put, List.setIfInBounds_toArray, List.set_cons_zero, List.set_cons_succ]
      refine wpAnyH_take (i := 3) (v := ?_) (iatLS (iatSS (iatSS (iatSS iatZS)))) (by kernel_rfl) (by kernel_rfl) (by kernel_rfl) (fun _ _ _ h => h) (Or.inl ⟨by rfl, ?_⟩) (by assumption) ?_
      rotate_left
      · intro w hSw
        try dsimp only at hSw
        go_simp
        all_goals with_reducible rfl
      try simp only [Act.put, List.setIfInBounds_toArray, List.set_cons_zero, List.set_cons_succ]
      refine wpAnyH_take (i := 4) (v := ?_) (iatLS (iatSS (iatSS (iatSS (iatSS iatZS))))) (by kernel_rfl) (by kernel_rfl) (by kernel_rfl) (fun _ _ _ h => h) (Or.inl ⟨by rfl, ?_⟩) (by assumption) ?_
      rotate_left
      · intro w hSw
        try dsimp only at hSw
        go_simp
        all_goals with_reducible rfl
      try simp only [Act.put, List.setIfInBounds_toArray, List.set_cons_zero, List.set_cons_succ]
      refine wpAnyH_take (i := 5) (v := ?_) (iatLS (iatSS (iatSS (iatSS (iatSS (iatSS iatZS)))))) (by kernel_rfl) (by kernel_rfl) (by kernel_rfl) (fun _ _ _ h => h) (Or.inl ⟨by rfl, ?_⟩) (by assumption) ?_
      rotate_left
      · intro w hSw
        try dsimp only at hSw
        go_simp
        all_goals with_reducible rfl
      try simp only [Act.put, List.setIfInBounds_toArray, List.set_cons_zero, List.set_cons_succ]
      refine wpAnyH_take (i := 6) (v := ?_) (iatLS (iatSS (iatSS (iatSS (iatSS (iatSS (iatSS iatZS))))))) (by kernel_rfl) (by kernel_rfl) (by kernel_rfl) (fun _ _ _ h => h) (Or.inl ⟨by rfl, ?_⟩) (by assumption) ?_
      rotate_left
      · intro w hSw
        try dsimp only at hSw
        go_simp
        all_goals with_reducible rfl
      try simp only [Act.put, List.setIfInBounds_toArray, List.set_cons_zero, List.set_cons_succ]
      refine wpAnyH_take (i := 7) (v := ?_) (iatLS (iatSS (iatSS (iatSS (iatSS (iatSS (iatSS (iatSS iatZS)))))))) (by kernel_rfl) (by kernel_rfl) (by kernel_rfl) (fun _ _ _ h => h) (Or.inl ⟨by rfl, ?_⟩) (by assumption) ?_
      rotate_left
      · intro w hSw
        try dsimp only at hSw
        go_simp
        all_goals with_reducible rfl
      try simp only [Act.put, List.setIfInBounds_toArray, List.set_cons_zero, List.set_cons_succ]
      refine wpAnyH_take (i := 8) (v := ?_) (iatLS (iatSS (iatSS (iatSS (iatSS (iatSS (iatSS (iatSS (iatSS iatZS))))))))) (by kernel_rfl) (by kernel_rfl) (by kernel_rfl) (fun _ _ _ h => h) (Or.inl ⟨by rfl, ?_⟩) (by assumption) ?_
      rotate_left
      · intro w hSw
        try dsimp only at hSw
        go_simp
        all_goals with_reducible rfl
      try simp only [Act.put, List.setIfInBounds_toArray, List.set_cons_zero, List.set_cons_succ]
      refine wpAnyH_take (i := 9) (v := ?_) (iatLS (iatSS (iatSS (iatSS (iatSS (iatSS (iatSS (iatSS (iatSS (iatSS iatZS)))))))))) (by kernel_rfl) (by kernel_rfl) (by kernel_rfl) (fun _ _ _ h => h) (Or.inl ⟨by rfl, ?_⟩) (by assumption) ?_
      rotate_left
      · intro w hSw
        try dsimp only at hSw
        go_simp
        all_goals with_reducible rfl
      try simp only [Act.put, List.setIfInBounds_toArray, List.set_cons_zero, List.set_cons_succ]
      refine wpAnyH_done (by kernel_rfl) ?_ _
      go_wp2_with (fail)
      have HbU := Lib.hid hbr.drew
      clear hbr
      go_loopw [87] (fun jv wr => ∃ j : Nat, j ≤ M ∧ jv = .int .i64 (j : Int) ∧ Below w8.heap.size w8 wr) (fun jv _ => M - (RowKit.intOf jv).toNat)
      case atStart => exact ⟨0, Nat.zero_le _, rfl, HbU.out⟩
      case round =>
        clear HbU Hbw
        obtain ⟨j, hj, rfl, hbr⟩ := hrel
        obtain ⟨U2, rfl⟩ : ∃ U, U = wr := ⟨_, rfl⟩
        by_cases hltj : j < M
        · have hjI : (j : Int) < (M : Int) := by omega
          have hjI0 : (0 : Int) ≤ (j : Int) := by omega
          have hjl : j < ed.length := by rw [hM.out]; exact hltj
          have hbw := Hb8.out.trans (hbr.mono Hb8.out.size)
          have hrow := Hal.out.row.grown hbw
          have hin : (al.getD k [])[j]? = some (ed[j]).l := by rw [Hst.out, List.getElem?_map, List.getElem?_eq_getElem hjl]; rfl
          have hok2 := hok.out _ (List.getElem_mem hjl)
          have hnm := (Hal.out.nms _ (List.getElem_mem hjl))
          obtain ⟨c, co, hc⟩ := hrow.at_ j (by rw [List.length_map]; exact hjl)
          have cc := hrow.cell c co hc j (by rw [List.length_map]; exact hjl)
          rw [List.getElem_map] at cc
          obtain ⟨e, he⟩ : ∃ v, Hid (ed[j] = v) := ⟨_, Lib.hid rfl⟩
          rw [he.out] at cc hok2 hin hnm
          have hblc := World.block_lt_of_cell? _ _ cc
          obtain ⟨el, ela, elc⟩ := e
          change _ = some (Value.slice ela el.length elc) at cc
          dsimp only at hok2 hin hnm
          have hem : el.length ≤ elc ∧ elc ≤ 9223372036854775807 := ⟨by have := hnm.le; rwa [List.length_map] at this, hnm.max⟩
          have Hok := Lib.hid hok2
          have Hnm := Lib.hid hnm
          have hel := hok2.1
          have Hmem : Hid (el ∈ al.getD k []) := Lib.hid (List.mem_of_getElem? hin)
          have Hlead := Lib.hid (Hld2.out U2 hbw el ela elc (hnm.grown hbw) hok2.2 (by omega))
          have Hfr : Hid (emp f el = true → (yk == 0) = true) := Lib.hid (fun h => by rw [← hbk.out]; exact Hnul.out k (by rw [Hpl.out]; exact hlt) el Hmem.out h)
          obtain ⟨E0, hE0⟩ : ∃ v, Hid (emp f el = v) := ⟨_, Lib.hid rfl⟩
          rw [hE0.out] at Hlead Hfr
          obtain ⟨EL, hEL⟩ : ∃ q, Hid (el.length = q) := ⟨_, Lib.hid rfl⟩
          rw [hEL.out] at Hlead cc hem hel
          have HA2u := Lib.hid (HA8.out.below hbr HA8.out.lt)
          have x0 := HA2u.out.cell 0
          have x1 := HA2u.out.cell 1
          have x2 := HA2u.out.cell 2
          have xl := HA2u.out.lt
          simp only [List.getElem?_cons_zero, List.getElem?_cons_succ] at x0 x1 x2
          subst hc
          clear hrow hok2 hnm hin hbw
          go_wp2_with (fail)
          refine Hlead.out.mono ?_
          rintro e w9 ⟨ma, mc, ml, rfl, hr3, ho3, hb9⟩
          have Hb9 := Lib.hid (hbr.trans (hb9.mono hbr.size))
          have hkd : k < ds.length := by rw [Hdl.out]; exact hlt
          have hf9' := Hf8.out.grown Hb9.out
          have cu := hf9'.row.cell f0 fo rfl k (by rw [List.length_map]; exact hkd)
          rw [List.getElem_map] at cu
          have hui := hf9'.nms _ (List.getElem_mem hkd)
          have hsub : ∀ t ∈ ml, t ∈ (ds[k]).l := fun t ht => ((Hri.out k hkd).mem t).2 (tok_rule Hmem.out ((hr3.mem t).1 ht))
          obtain ⟨u, hu⟩ : ∃ v, Hid (ds[k] = v) := ⟨_, Lib.hid rfl⟩
          rw [hu.out] at cu hui hsub
          obtain ⟨ul, ua, uc⟩ := u
          change _ = some (Value.slice ua ul.length uc) at cu
          dsimp only at hui hsub
          have Hp1 := Lib.hid (part_any ml ul ma ua mc uc w9 ho3.vs hui hsub)
          obtain ⟨UL, hUL⟩ : ∃ q, Hid (ul.length = q) := ⟨_, Lib.hid rfl⟩
          obtain ⟨ML, hML⟩ : ∃ q, Hid (ml.length = q) := ⟨_, Lib.hid rfl⟩
          rw [hUL.out, hML.out] at Hp1
          rw [hUL.out] at cu
          have hblu := World.block_lt_of_cell? _ _ cu
          have cn := (Vs.grown Hn8.out Hb9.out).cell n0 no rfl k (by simpa using hlt)
          rw [range_at, hbk.out] at cn
          have hbln := World.block_lt_of_cell? _ _ cn
          rw [hML.out]
          clear x0 x1 x2 xl cc hblc hr3 ho3 hb9 hbr hui hsub
          go_wp2_with (fail)
          refine Hp1.out.mono ?_
          rintro e w10 ⟨rfl, rfl⟩
          have Hmain : Hid (Below w8.heap.size w8 w10) := Hb9
          have hfr2 := Hfr.out
          cases E0
          all_goals
            try rw [hfr2 rfl] at cn
            clear hfr2
            go_wp2_with (fail)
            clear cu cn hblu hbln
            go_loopw [116] (fun iv wr => ∃ i : Nat, i ≤ EL ∧ iv = .int .i64 (i : Int) ∧ Below w8.heap.size w8 wr) (fun iv _ => EL - (RowKit.intOf iv).toNat)
            case atStart => exact ⟨0, Nat.zero_le _, rfl, Hmain.out⟩
            case round =>
              clear Hmain Hb9
              obtain ⟨i, hi, rfl, hbr⟩ := hrel
              obtain ⟨U3, rfl⟩ : ∃ U, U = wr := ⟨_, rfl⟩
              by_cases hlti : i < EL
              · have hiI : (i : Int) < (EL : Int) := by omega
                have hiI0 : (0 : Int) ≤ (i : Int) := by omega
                have hil : i < el.length := by rw [hEL.out]; exact hlti
                have hbw := Hb8.out.trans (hbr.mono Hb8.out.size)
                have hrow := Hnm.out.grown hbw
                obtain ⟨a, ao, ha⟩ := hrow.at_ i (by rw [List.length_map]; exact hil)
                have ca := hrow.cell a ao ha i (by rw [List.length_map]; exact hil)
                rw [List.getElem_map] at ca
                have hm := Hok.out.2 _ (List.getElem_mem hil)
                obtain ⟨x, hxv⟩ : ∃ v, Hid (el[i] = v) := ⟨_, Lib.hid rfl⟩
                rw [hxv.out] at ca hm
                have hbla := World.block_lt_of_cell? _ _ ca
                by_cases h0 : x < 0
                · have hge : ¬ (0 : Int) ≤ x := by omega
                  have hsa : ∃ sa sc, Ints w sa sc (el.drop (i + 1)) ∧ sc = elc - (i + 1) ∧ sa = (if elc = i + 1 then some ⟨a, ao, none⟩ else some ⟨a, ao + (i + 1), none⟩) := by
                    subst ha
                    by_cases hce : elc = i + 1
                    · refine ⟨_, _, ?_, rfl, rfl⟩
                      rw [if_pos hce, List.drop_eq_nil_of_le (by rw [hEL.out]; omega)]
                      exact ints_end _ (by omega)
                    · refine ⟨_, _, ?_, rfl, rfl⟩
                      rw [if_neg hce]
                      exact ints_drop Hnm.out (i + 1) (by rw [hEL.out]; omega)
                  obtain ⟨sa2, sc2, hsi, hsc, hsae⟩ := hsa
                  have hdl : (el.drop (i + 1)).length = EL - (i + 1) := by rw [List.length_drop, hEL.out]
                  have Hl3 := Lib.hid (Hld2.out U3.drew hbw.drew (el.drop (i + 1)) sa2 sc2 (hsi.grown hbw.drew) (fun x hx => Hok.out.2 x (List.mem_of_mem_drop hx)) (by omega))
                  rw [hdl] at Hl3
                  obtain ⟨E, hE9⟩ : ∃ v, Hid (emp f (el.drop (i + 1)) = v) := ⟨_, Lib.hid rfl⟩
                  rw [hE9.out] at Hl3
                  have hw1 : IntKind.i64.wrap ((i : Int) + 1) = ((i + 1 : Nat) : Int) := by rw [show (i : Int) + 1 = ((i + 1 : Nat) : Int) by omega]; exact IntWalk.i64_in _ (by omega)
                  have hle1 : (i : Int) + 1 ≤ (EL : Int) := by omega
                  have hle0 : (0 : Int) ≤ (i : Int) + 1 := by omega
                  have Hbd := Lib.hid hbr.drew
                  have HAd := Lib.hid (HA8.out.below hbr.drew HA8.out.lt)
                  have HS26 : Hid (U3.drew.cell? ⟨bx, 0, none⟩ = some (.slice xta T xtc) ∧ U3.drew.cell? ⟨bx, 1, none⟩ = some (.slice xna N xnc) ∧ U3.drew.cell? ⟨bx, 2, none⟩ = some (.slice (some ⟨p, po, none⟩) L xac)) := Lib.hid ⟨HAd.out.cell 0, HAd.out.cell 1, HAd.out.cell 2⟩
                  subst ha
                  subst hsc
                  subst hsae
                  clear hsi hrow hbw hdl
                  go_wp2_with (fail)
                  refine wp_region_held_drew (S := fun w' => w'.cell? ⟨bx, 0, none⟩ = some (.slice xta T xtc) ∧ w'.cell? ⟨bx, 1, none⟩ = some (.slice xna N xnc) ∧ w'.cell? ⟨bx, 2, none⟩ = some (.slice (some ⟨p, po, none⟩) L xac)) (by kernel_rfl) ?_ (fun hHeld => ?_)
                  · exact HS26.out
                  refine wpAnyH_take (i := 0) (v := ?_) (iatLS iatZS) (by kernel_rfl) (by kernel_rfl) (by kernel_rfl) (fun _ _ _ h => h) (Or.inl ⟨by rfl, ?_⟩) (by assumption) ?_
                  rotate_left
                  · intro w hSw
                    try dsimp only at hSw
                    go_simp
                    all_goals with_reducible rfl
                  try simp only [Act.put, List.setIfInBounds_toArray, List.set_cons_zero, List.set_cons_succ]
                  refine wpAnyH_take (i := 1) (v := ?_) (iatLS (iatSS iatZS)) (by kernel_rfl) (by kernel_rfl) (by kernel_rfl) (fun _ _ _ h => h) (Or.inl ⟨by rfl, ?_⟩) (by assumption) ?_
                  rotate_left
                  · intro w hSw
                    try dsimp only at hSw
                    go_simp
                    all_goals with_reducible rfl
                  try simp only [Act.put, List.setIfInBounds_toArray, List.set_cons_zero, List.set_cons_succ]
                  refine wpAnyH_take (i := 2) (v := ?_) (iatLS (iatSS (iatSS iatZS))) (by kernel_rfl) (by kernel_rfl) (by kernel_rfl) (fun _ _ _ h => h) (Or.inl ⟨by rfl, ?_⟩) (by assumption) ?_
                  rotate_left
                  · intro w hSw
                    try dsimp only at hSw
                    go_simp
                    all_goals with_reducible rfl
                  try simp only [Act.put, List.setIfInBounds_toArray, List.set_cons_zero, List.set_cons_succ]
                  refine wpAnyH_take (i := 3) (v := ?_) (iatLS (iatSS (iatSS (iatSS iatZS)))) (by kernel_rfl) (by kernel_rfl) (by kernel_rfl) (fun _ _ _ h => h) (Or.inl ⟨by rfl, ?_⟩) (by assumption) ?_
                  rotate_left
                  · intro w hSw
                    try dsimp only at hSw
                    go_simp
                    all_goals with_reducible rfl
                  try simp only [Act.put, List.setIfInBounds_toArray, List.set_cons_zero, List.set_cons_succ]
                  refine wpAnyH_take (i := 4) (v := ?_) (iatLS (iatSS (iatSS (iatSS (iatSS iatZS))))) (by kernel_rfl) (by kernel_rfl) (by kernel_rfl) (fun _ _ _ h => h) (Or.inl ⟨by rfl, ?_⟩) (by assumption) ?_
                  rotate_left
                  · intro w hSw
                    try dsimp only at hSw
                    go_simp
                    all_goals with_reducible rfl
                  try simp only [Act.put, List.setIfInBounds_toArray, List.set_cons_zero, List.set_cons_succ]
                  refine wpAnyH_ready (rs := [5]) (by kernel_rfl) (by simp) ?_
                  refine AllReadyH.cons (iatLS (iatSS (iatSS (iatSS (iatSS (iatSS iatZS)))))) (fun K hK => ?_) AllReadyH.nil
                  go_simp
                  generalize hsaq : (if elc = i + 1 then some (⟨a, ao, none⟩ : Addr) else some ⟨a, ao + (i + 1), none⟩) = sa9 at Hl3 ⊢
                  clear hsaq
                  (with_reducible refine Hl3.out.mono ?_)
                  rintro e8 w9 ⟨ma, mc, ml, rfl, hr3, ho3, hb9⟩
                  have HR3 := Lib.hid hr3
                  have Hm9 := Lib.hid ho3.vs
                  have Hb9 := Lib.hid (Hbd.out.trans (hb9.mono Hbd.out.size))
                  have HA9 := Lib.hid (HA8.out.below Hb9.out HA8.out.lt)
                  have HS9 : Hid (w9.cell? ⟨bx, 0, none⟩ = some (.slice xta T xtc) ∧ w9.cell? ⟨bx, 1, none⟩ = some (.slice xna N xnc) ∧ w9.cell? ⟨bx, 2, none⟩ = some (.slice (some ⟨p, po, none⟩) L xac)) := Lib.hid ⟨HA9.out.cell 0, HA9.out.cell 1, HA9.out.cell 2⟩
                  obtain ⟨ML, hML⟩ : ∃ q, Hid (ml.length = q) := ⟨_, Lib.hid rfl⟩
                  rw [hML.out]
                  clear hr3 ho3 hb9
                  try dsimp only
                  refine hK.out _ _ ?_ (fun hHeld => ?_)
                  · exact HS9.out
                  clear hK K
                  try simp only [Act.put, List.setIfInBounds_toArray, List.set_cons_zero, List.set_cons_succ]
                  refine wpAnyH_take (i := 6) (v := ?_) (iatLS (iatSS (iatSS (iatSS (iatSS (iatSS (iatSS iatZS))))))) (by kernel_rfl) (by kernel_rfl) (by kernel_rfl) (fun _ _ _ h => h) (Or.inl ⟨by rfl, ?_⟩) (by assumption) ?_
                  rotate_left
                  · intro w hSw
                    try dsimp only at hSw
                    go_simp
                    all_goals with_reducible rfl
                  try simp only [Act.put, List.setIfInBounds_toArray, List.set_cons_zero, List.set_cons_succ]
                  refine wpAnyH_take (i := 7) (v := ?_) (iatLS (iatSS (iatSS (iatSS (iatSS (iatSS (iatSS (iatSS iatZS)))))))) (by kernel_rfl) (by kernel_rfl) (by kernel_rfl) (fun _ _ _ h => h) (Or.inl ⟨by rfl, ?_⟩) (by assumption) ?_
                  rotate_left
                  · intro w hSw
                    try dsimp only at hSw
                    go_simp
                    all_goals with_reducible rfl
                  try simp only [Act.put, List.setIfInBounds_toArray, List.set_cons_zero, List.set_cons_succ]
                  refine wpAnyH_take (i := 8) (v := ?_) (iatLS (iatSS (iatSS (iatSS (iatSS (iatSS (iatSS (iatSS (iatSS iatZS))))))))) (by kernel_rfl) (by kernel_rfl) (by kernel_rfl) (fun _ _ _ h => h) (Or.inl ⟨by rfl, ?_⟩) (by assumption) ?_
                  rotate_left
                  · intro w hSw
                    try dsimp only at hSw
                    go_simp
                    all_goals with_reducible rfl
                  try simp only [Act.put, List.setIfInBounds_toArray, List.set_cons_zero, List.set_cons_succ]
                  refine wpAnyH_take (i := 9) (v := ?_) (iatLS (iatSS (iatSS (iatSS (iatSS (iatSS (iatSS (iatSS (iatSS (iatSS iatZS)))))))))) (by kernel_rfl) (by kernel_rfl) (by kernel_rfl) (fun _ _ _ h => h) (Or.inl ⟨by rfl, ?_⟩) (by assumption) ?_
                  rotate_left
                  · intro w hSw
                    try dsimp only at hSw
                    go_simp
                    all_goals with_reducible rfl
                  try simp only [Act.put, List.setIfInBounds_toArray, List.set_cons_zero, List.set_cons_succ]
                  refine wpAnyH_take (i := 10) (v := ?_) (iatLS (iatSS (iatSS (iatSS (iatSS (iatSS (iatSS (iatSS (iatSS (iatSS (iatSS iatZS))))))))))) (by kernel_rfl) (by kernel_rfl) (by kernel_rfl) (fun _ _ _ h => h) (Or.inl ⟨by rfl, ?_⟩) (by assumption) ?_
                  rotate_left
                  · intro w hSw
                    try dsimp only at hSw
                    go_simp
                    all_goals with_reducible rfl
                  try simp only [Act.put, List.setIfInBounds_toArray, List.set_cons_zero, List.set_cons_succ]
                  refine wpAnyH_done (by kernel_rfl) ?_ _
                  go_wp2_with (fail)
                  have hb9d : Below w8.heap.size w8 w9.drew := Hb9.out.drew
                  have Hb9d := Lib.hid hb9d
                  have Hg9 := Lib.hid (Hg8.out.grown hb9d)
                  obtain ⟨s, hsx⟩ : ∃ s : Nat, Hid (x = -1 - (s : Int)) := ⟨ruL x, Lib.hid (of_ruL h0).symm⟩
                  have hsL : s < L := by have := hsx.out; omega
                  have hse : s < es.length := by rw [Hel.out]; exact hsL
                  have hke : k < es.length := by rw [Hel.out]; exact hlt
                  have cu := Hg9.out.row.cell g0 go rfl s (by rw [List.length_map]; exact hse)
                  have cv := Hg9.out.row.cell g0 go rfl k (by rw [List.length_map]; exact hke)
                  rw [List.getElem_map] at cu cv
                  have Hui := Lib.hid (Hg9.out.nms _ (List.getElem_mem hse))
                  have Hvi := Lib.hid (Hg9.out.nms _ (List.getElem_mem hke))
                  have hin2 : el[i]? = some (-1 - (s : Int)) := by rw [List.getElem?_eq_getElem hil, hxv.out, hsx.out]
                  have Hsub1 : Hid (∀ t ∈ ml, t ∈ (es[s]).l) := Lib.hid (fun t ht => ((Hrg.out s hse).mem t).2 (fol_beh (r := k) (a := el) (i := i) (by rw [Hpl.out]; exact hlt) Hmem.out hin2 ((HR3.out.mem t).1 ht)))
                  have Hsub2 : Hid (emp f (el.drop (i + 1)) = true → ∀ t ∈ (es[k]).l, t ∈ (es[s]).l) := Lib.hid (fun he t ht => ((Hrg.out s hse).mem t).2 (fol_last ⟨by rw [Hpl.out]; exact hlt, el, Hmem.out, i, hin2, he⟩ (((Hrg.out k hke).mem t).1 ht)))
                  obtain ⟨u, hu⟩ : ∃ v, Hid (es[s] = v) := ⟨_, Lib.hid rfl⟩
                  obtain ⟨v, hv⟩ : ∃ v, Hid (es[k] = v) := ⟨_, Lib.hid rfl⟩
                  rw [hu.out] at cu Hui Hsub1 Hsub2
                  rw [hv.out] at cv Hvi Hsub2
                  obtain ⟨ul, ua, uc⟩ := u
                  obtain ⟨vl, va, vc⟩ := v
                  change _ = some (Value.slice ua ul.length uc) at cu
                  change _ = some (Value.slice va vl.length vc) at cv
                  dsimp only at Hui Hvi Hsub1 Hsub2
                  have Hp1 := Lib.hid (part_any ml ul ma ua mc uc w9.drew (Hm9.out.grown (Below.refl _ w9).drew) Hui.out Hsub1.out)
                  have Hp2 : Hid (E = true → _) := Lib.hid (fun he => part_any vl ul va ua vc uc w9.drew Hvi.out Hui.out (Hsub2.out (by rw [hE9.out]; exact he)))
                  obtain ⟨UL, hUL⟩ : ∃ q, Hid (ul.length = q) := ⟨_, Lib.hid rfl⟩
                  obtain ⟨VL, hVL⟩ : ∃ q, Hid (vl.length = q) := ⟨_, Lib.hid rfl⟩
                  rw [hUL.out, hML.out] at Hp1
                  rw [hUL.out, hVL.out] at Hp2
                  rw [hUL.out] at cu
                  rw [hVL.out] at cv
                  have HS27 : Hid (w9.drew.cell? ⟨g0, go + s, none⟩ = some (.slice ua UL uc) ∧ w9.drew.cell? ⟨g0, go + k, none⟩ = some (.slice va VL vc)) := Lib.hid ⟨cu, cv⟩
                  have hsI : (s : Int) < (L : Int) := by omega
                  have hsI0 : (0 : Int) ≤ (s : Int) := by omega
                  have hw2 : IntKind.i64.wrap (-1 - x) = (s : Int) := by rw [hsx.out, show (-1 - (-1 - (s : Int))) = (s : Int) by omega]; exact IntWalk.i64_in _ (by omega)
                  clear cu cv hb9d hin2
                  cases E
                  ·
                    refine wp_region_held_drew (S := fun w' => w'.cell? ⟨g0, go + s, none⟩ = some (.slice ua UL uc) ∧ w'.cell? ⟨g0, go + k, none⟩ = some (.slice va VL vc)) (by kernel_rfl) ?_ (fun hHeld => ?_)
                    · exact HS27.out
                    refine wpAnyH_take (i := 0) (v := ?_) (iatLS iatZS) (by kernel_rfl) (by kernel_rfl) (by kernel_rfl) (fun _ _ _ h => h) (Or.inl ⟨by rfl, ?_⟩) (by assumption) ?_
                    rotate_left
                    · intro w hSw
                      try dsimp only at hSw
                      go_simp
                      all_goals with_reducible rfl
                    try simp only [Act.put, List.setIfInBounds_toArray, List.set_cons_zero, List.set_cons_succ]
                    refine wpAnyH_take (i := 1) (v := ?_) (iatLS (iatSS iatZS)) (by kernel_rfl) (by kernel_rfl) (by kernel_rfl) (fun _ _ _ h => h) (Or.inl ⟨by rfl, ?_⟩) (by assumption) ?_
                    rotate_left
                    · intro w hSw
                      try dsimp only at hSw
                      go_simp
                      all_goals with_reducible rfl
                    try simp only [Act.put, List.setIfInBounds_toArray, List.set_cons_zero, List.set_cons_succ]
                    refine wpAnyH_take (i := 2) (v := ?_) (iatLS (iatSS (iatSS iatZS))) (by kernel_rfl) (by kernel_rfl) (by kernel_rfl) (fun _ _ _ h => h) (Or.inl ⟨by rfl, ?_⟩) (by assumption) ?_
                    rotate_left
                    · intro w hSw
                      try dsimp only at hSw
                      go_simp
                      all_goals with_reducible rfl
                    try simp only [Act.put, List.setIfInBounds_toArray, List.set_cons_zero, List.set_cons_succ]
                    refine wpAnyH_take (i := 3) (v := ?_) (iatLS (iatSS (iatSS (iatSS iatZS)))) (by kernel_rfl) (by kernel_rfl) (by kernel_rfl) (fun _ _ _ h => h) (Or.inl ⟨by rfl, ?_⟩) (by assumption) ?_
                    rotate_left
                    · intro w hSw
                      try dsimp only at hSw
                      go_simp
                      all_goals with_reducible rfl
                    try simp only [Act.put, List.setIfInBounds_toArray, List.set_cons_zero, List.set_cons_succ]
                    refine wpAnyH_take (i := 4) (v := ?_) (iatLS (iatSS (iatSS (iatSS (iatSS iatZS))))) (by kernel_rfl) (by kernel_rfl) (by kernel_rfl) (fun _ _ _ h => h) (Or.inl ⟨by rfl, ?_⟩) (by assumption) ?_
                    rotate_left
                    · intro w hSw
                      try dsimp only at hSw
                      go_simp
                      all_goals with_reducible rfl
                    try simp only [Act.put, List.setIfInBounds_toArray, List.set_cons_zero, List.set_cons_succ]
                    refine wpAnyH_take (i := 5) (v := ?_) (iatLS (iatSS (iatSS (iatSS (iatSS (iatSS iatZS)))))) (by kernel_rfl) (by kernel_rfl) (by kernel_rfl) (fun _ _ _ h => h) (Or.inl ⟨by rfl, ?_⟩) (by assumption) ?_
                    rotate_left
                    · intro w hSw
                      try dsimp only at hSw
                      go_simp
                      all_goals with_reducible rfl
                    try simp only [Act.put, List.setIfInBounds_toArray, List.set_cons_zero, List.set_cons_succ]
                    refine wpAnyH_ready (rs := [6]) (by kernel_rfl) (by simp) ?_
                    refine AllReadyH.cons (iatLS (iatSS (iatSS (iatSS (iatSS (iatSS (iatSS iatZS))))))) (fun K hK => ?_) AllReadyH.nil
                    go_simp
                    (with_reducible refine Hp1.out.mono ?_)
                    rintro e8 w8 ⟨rfl, rfl⟩
                    try dsimp only
                    refine hK.out _ _ ?_ (fun hHeld => ?_)
                    · exact HS27.out
                    clear hK K
                    try simp only [Act.put, List.setIfInBounds_toArray, List.set_cons_zero, List.set_cons_succ]
                    refine wpAnyH_take (i := 7) (v := ?_) (iatLS (iatSS (iatSS (iatSS (iatSS (iatSS (iatSS (iatSS iatZS)))))))) (by kernel_rfl) (by kernel_rfl) (by kernel_rfl) (fun _ _ _ h => h) (Or.inl ⟨by rfl, ?_⟩) (by assumption) ?_
                    rotate_left
                    · intro w hSw
                      try dsimp only at hSw
                      go_simp
                      all_goals with_reducible rfl
                    try simp only [Act.put, List.setIfInBounds_toArray, List.set_cons_zero, List.set_cons_succ]
                    refine wpAnyH_take (i := 8) (v := ?_) (iatLS (iatSS (iatSS (iatSS (iatSS (iatSS (iatSS (iatSS (iatSS iatZS))))))))) (by kernel_rfl) (by kernel_rfl) (by kernel_rfl) (fun _ _ _ h => h) (Or.inl ⟨by rfl, ?_⟩) (by assumption) ?_
                    rotate_left
                    · intro w hSw
                      try dsimp only at hSw
                      go_simp
                      all_goals with_reducible rfl
                    try simp only [Act.put, List.setIfInBounds_toArray, List.set_cons_zero, List.set_cons_succ]
                    refine wpAnyH_take (i := 9) (v := ?_) (iatLS (iatSS (iatSS (iatSS (iatSS (iatSS (iatSS (iatSS (iatSS (iatSS iatZS)))))))))) (by kernel_rfl) (by kernel_rfl) (by kernel_rfl) (fun _ _ _ h => h) (Or.inl ⟨by rfl, ?_⟩) (by assumption) ?_
                    rotate_left
                    · intro w hSw
                      try dsimp only at hSw
                      go_simp
                      all_goals with_reducible rfl
                    try simp only [Act.put, List.setIfInBounds_toArray, List.set_cons_zero, List.set_cons_succ]
                    refine wpAnyH_take (i := 10) (v := ?_) (iatLS (iatSS (iatSS (iatSS (iatSS (iatSS (iatSS (iatSS (iatSS (iatSS (iatSS iatZS))))))))))) (by kernel_rfl) (by kernel_rfl) (by kernel_rfl) (fun _ _ _ h => h) (Or.inl ⟨by rfl, ?_⟩) (by assumption) ?_
                    rotate_left
                    · intro w hSw
                      try dsimp only at hSw
                      go_simp
                      all_goals with_reducible rfl
                    try simp only [Act.put, List.setIfInBounds_toArray, List.set_cons_zero, List.set_cons_succ]
                    refine wpAnyH_take (i := 11) (v := undef) (iatLS (iatSS (iatSS (iatSS (iatSS (iatSS (iatSS (iatSS (iatSS (iatSS (iatSS (iatSS iatZS)))))))))))) (by kernel_rfl) (by kernel_rfl) (by kernel_rfl) (fun _ _ _ h => h) (Or.inr ⟨by rfl, rfl⟩) (by assumption) ?_
                    try simp only [Act.put, List.setIfInBounds_toArray, List.set_cons_zero, List.set_cons_succ]
                    refine wpAnyH_take (i := 12) (v := undef) (iatLS (iatSS (iatSS (iatSS (iatSS (iatSS (iatSS (iatSS (iatSS (iatSS (iatSS (iatSS (iatSS iatZS))))))))))))) (by kernel_rfl) (by kernel_rfl) (by kernel_rfl) (fun _ _ _ h => h) (Or.inr ⟨by rfl, rfl⟩) (by assumption) ?_
                    try simp only [Act.put, List.setIfInBounds_toArray, List.set_cons_zero, List.set_cons_succ]
                    refine wpAnyH_take (i := 13) (v := undef) (iatLS (iatSS (iatSS (iatSS (iatSS (iatSS (iatSS (iatSS (iatSS (iatSS (iatSS (iatSS (iatSS (iatSS iatZS)))))))))))))) (by kernel_rfl) (by kernel_rfl) (by kernel_rfl) (fun _ _ _ h => h) (Or.inr ⟨by rfl, rfl⟩) (by assumption) ?_
                    try simp only [Act.put, List.setIfInBounds_toArray, List.set_cons_zero, List.set_cons_succ]
                    refine wpAnyH_take (i := 14) (v := undef) (iatLS (iatSS (iatSS (iatSS (iatSS (iatSS (iatSS (iatSS (iatSS (iatSS (iatSS (iatSS (iatSS (iatSS (iatSS iatZS))))))))))))))) (by kernel_rfl) (by kernel_rfl) (by kernel_rfl) (fun _ _ _ h => h) (Or.inr ⟨by rfl, rfl⟩) (by assumption) ?_
                    try simp only [Act.put, List.setIfInBounds_toArray, List.set_cons_zero, List.set_cons_succ]
                    refine wpAnyH_take (i := 15) (v := undef) (iatLS (iatSS (iatSS (iatSS (iatSS (iatSS (iatSS (iatSS (iatSS (iatSS (iatSS (iatSS (iatSS (iatSS (iatSS (iatSS iatZS)))))))))))))))) (by kernel_rfl) (by kernel_rfl) (by kernel_rfl) (fun _ _ _ h => h) (Or.inr ⟨by rfl, rfl⟩) (by assumption) ?_
                    try simp only [Act.put, List.setIfInBounds_toArray, List.set_cons_zero, List.set_cons_succ]
                    refine wpAnyH_take (i := 16) (v := undef) (iatLS (iatSS (iatSS (iatSS (iatSS (iatSS (iatSS (iatSS (iatSS (iatSS (iatSS (iatSS (iatSS (iatSS (iatSS (iatSS (iatSS iatZS))))))))))))))))) (by kernel_rfl) (by kernel_rfl) (by kernel_rfl) (fun _ _ _ h => h) (Or.inr ⟨by rfl, rfl⟩) (by assumption) ?_
                    try simp only [Act.put, List.setIfInBounds_toArray, List.set_cons_zero, List.set_cons_succ]
                    refine wpAnyH_take (i := 17) (v := undef) (iatLS (iatSS (iatSS (iatSS (iatSS (iatSS (iatSS (iatSS (iatSS (iatSS (iatSS (iatSS (iatSS (iatSS (iatSS (iatSS (iatSS (iatSS iatZS)))))))))))))))))) (by kernel_rfl) (by kernel_rfl) (by kernel_rfl) (fun _ _ _ h => h) (Or.inr ⟨by rfl, rfl⟩) (by assumption) ?_
                    try simp only [Act.put, List.setIfInBounds_toArray, List.set_cons_zero, List.set_cons_succ]
                    refine wpAnyH_take (i := 18) (v := undef) (iatLS (iatSS (iatSS (iatSS (iatSS (iatSS (iatSS (iatSS (iatSS (iatSS (iatSS (iatSS (iatSS (iatSS (iatSS (iatSS (iatSS (iatSS (iatSS iatZS))))))))))))))))))) (by kernel_rfl) (by kernel_rfl) (by kernel_rfl) (fun _ _ _ h => h) (Or.inr ⟨by rfl, rfl⟩) (by assumption) ?_
                    try simp only [Act.put, List.setIfInBounds_toArray, List.set_cons_zero, List.set_cons_succ]
                    refine wpAnyH_take (i := 19) (v := undef) (iatLS (iatSS (iatSS (iatSS (iatSS (iatSS (iatSS (iatSS (iatSS (iatSS (iatSS (iatSS (iatSS (iatSS (iatSS (iatSS (iatSS (iatSS (iatSS (iatSS iatZS)))))))))))))))))))) (by kernel_rfl) (by kernel_rfl) (by kernel_rfl) (fun _ _ _ h => h) (Or.inr ⟨by rfl, rfl⟩) (by assumption) ?_
                    try simp only [Act.put, List.setIfInBounds_toArray, List.set_cons_zero, List.set_cons_succ]
                    refine wpAnyH_take (i := 20) (v := undef) (iatLS (iatSS (iatSS (iatSS (iatSS (iatSS (iatSS (iatSS (iatSS (iatSS (iatSS (iatSS (iatSS (iatSS (iatSS (iatSS (iatSS (iatSS (iatSS (iatSS (iatSS iatZS))))))))))))))))))))) (by kernel_rfl) (by kernel_rfl) (by kernel_rfl) (fun _ _ _ h => h) (Or.inr ⟨by rfl, rfl⟩) (by assumption) ?_
                    try simp only [Act.put, List.setIfInBounds_toArray, List.set_cons_zero, List.set_cons_succ]
                    refine wpAnyH_take (i := 21) (v := undef) (iatLS (iatSS (iatSS (iatSS (iatSS (iatSS (iatSS (iatSS (iatSS (iatSS (iatSS (iatSS (iatSS (iatSS (iatSS (iatSS (iatSS (iatSS (iatSS (iatSS (iatSS (iatSS iatZS)))))))))))))))))))))) (by kernel_rfl) (by kernel_rfl) (by kernel_rfl) (fun _ _ _ h => h) (Or.inr ⟨by rfl, rfl⟩) (by assumption) ?_
                    try simp only [Act.put, List.setIfInBounds_toArray, List.set_cons_zero, List.set_cons_succ]
                    refine wpAnyH_take (i := 22) (v := ?_) (iatLS (iatSS (iatSS (iatSS (iatSS (iatSS (iatSS (iatSS (iatSS (iatSS (iatSS (iatSS (iatSS (iatSS (iatSS (iatSS (iatSS (iatSS (iatSS (iatSS (iatSS (iatSS (iatSS iatZS))))))))))))))))))))))) (by kernel_rfl) (by kernel_rfl) (by kernel_rfl) (fun _ _ _ h => h) (Or.inl ⟨by rfl, ?_⟩) (by assumption) ?_
                    rotate_left
                    · intro w hSw
                      try dsimp only at hSw
                      go_simp
                      all_goals with_reducible rfl
                    try simp only [Act.put, List.setIfInBounds_toArray, List.set_cons_zero, List.set_cons_succ]
                    refine wpAnyH_take (i := 23) (v := ?_) (iatLS (iatSS (iatSS (iatSS (iatSS (iatSS (iatSS (iatSS (iatSS (iatSS (iatSS (iatSS (iatSS (iatSS (iatSS (iatSS (iatSS (iatSS (iatSS (iatSS (iatSS (iatSS (iatSS (iatSS iatZS)))))))))))))))))))))))) (by kernel_rfl) (by kernel_rfl) (by kernel_rfl) (fun _ _ _ h => h) (Or.inl ⟨by rfl, ?_⟩) (by assumption) ?_
                    rotate_left
                    · intro w hSw
                      try dsimp only at hSw
                      go_simp
                      all_goals with_reducible rfl
                    try simp only [Act.put, List.setIfInBounds_toArray, List.set_cons_zero, List.set_cons_succ]
                    refine wpAnyH_done (by kernel_rfl) ?_ _
                    go_wp2_with (fail)
                    exact ⟨⟨i + 1, by omega, by go_num, Hb9d.out⟩, by simp [RowKit.intOf]; omega⟩
                  · have Hp2 := Lib.hid (Hp2.out rfl)
                    refine wp_region_held_drew (S := fun w' => w'.cell? ⟨g0, go + s, none⟩ = some (.slice ua UL uc) ∧ w'.cell? ⟨g0, go + k, none⟩ = some (.slice va VL vc)) (by kernel_rfl) ?_ (fun hHeld => ?_)
                    · exact HS27.out
                    refine wpAnyH_take (i := 0) (v := ?_) (iatLS iatZS) (by kernel_rfl) (by kernel_rfl) (by kernel_rfl) (fun _ _ _ h => h) (Or.inl ⟨by rfl, ?_⟩) (by assumption) ?_
                    rotate_left
                    · intro w hSw
                      try dsimp only at hSw
                      go_simp
                      all_goals with_reducible rfl
                    try simp only [Act.put, List.setIfInBounds_toArray, List.set_cons_zero, List.set_cons_succ]
                    refine wpAnyH_take (i := 1) (v := ?_) (iatLS (iatSS iatZS)) (by kernel_rfl) (by kernel_rfl) (by kernel_rfl) (fun _ _ _ h => h) (Or.inl ⟨by rfl, ?_⟩) (by assumption) ?_
                    rotate_left
                    · intro w hSw
                      try dsimp only at hSw
                      go_simp
                      all_goals with_reducible rfl
                    try simp only [Act.put, List.setIfInBounds_toArray, List.set_cons_zero, List.set_cons_succ]
                    refine wpAnyH_take (i := 2) (v := ?_) (iatLS (iatSS (iatSS iatZS))) (by kernel_rfl) (by kernel_rfl) (by kernel_rfl) (fun _ _ _ h => h) (Or.inl ⟨by rfl, ?_⟩) (by assumption) ?_
                    rotate_left
                    · intro w hSw
                      try dsimp only at hSw
                      go_simp
                      all_goals with_reducible rfl
                    try simp only [Act.put, List.setIfInBounds_toArray, List.set_cons_zero, List.set_cons_succ]
                    refine wpAnyH_take (i := 3) (v := ?_) (iatLS (iatSS (iatSS (iatSS iatZS)))) (by kernel_rfl) (by kernel_rfl) (by kernel_rfl) (fun _ _ _ h => h) (Or.inl ⟨by rfl, ?_⟩) (by assumption) ?_
                    rotate_left
                    · intro w hSw
                      try dsimp only at hSw
                      go_simp
                      all_goals with_reducible rfl
                    try simp only [Act.put, List.setIfInBounds_toArray, List.set_cons_zero, List.set_cons_succ]
                    refine wpAnyH_take (i := 4) (v := ?_) (iatLS (iatSS (iatSS (iatSS (iatSS iatZS))))) (by kernel_rfl) (by kernel_rfl) (by kernel_rfl) (fun _ _ _ h => h) (Or.inl ⟨by rfl, ?_⟩) (by assumption) ?_
                    rotate_left
                    · intro w hSw
                      try dsimp only at hSw
                      go_simp
                      all_goals with_reducible rfl
                    try simp only [Act.put, List.setIfInBounds_toArray, List.set_cons_zero, List.set_cons_succ]
                    refine wpAnyH_take (i := 5) (v := ?_) (iatLS (iatSS (iatSS (iatSS (iatSS (iatSS iatZS)))))) (by kernel_rfl) (by kernel_rfl) (by kernel_rfl) (fun _ _ _ h => h) (Or.inl ⟨by rfl, ?_⟩) (by assumption) ?_
                    rotate_left
                    · intro w hSw
                      try dsimp only at hSw
                      go_simp
                      all_goals with_reducible rfl
                    try simp only [Act.put, List.setIfInBounds_toArray, List.set_cons_zero, List.set_cons_succ]
                    refine wpAnyH_ready (rs := [6]) (by kernel_rfl) (by simp) ?_
                    refine AllReadyH.cons (iatLS (iatSS (iatSS (iatSS (iatSS (iatSS (iatSS iatZS))))))) (fun K hK => ?_) AllReadyH.nil
                    go_simp
                    (with_reducible refine Hp1.out.mono ?_)
                    rintro e8 w8 ⟨rfl, rfl⟩
                    try dsimp only
                    refine hK.out _ _ ?_ (fun hHeld => ?_)
                    · exact HS27.out
                    clear hK K
                    try simp only [Act.put, List.setIfInBounds_toArray, List.set_cons_zero, List.set_cons_succ]
                    refine wpAnyH_take (i := 7) (v := ?_) (iatLS (iatSS (iatSS (iatSS (iatSS (iatSS (iatSS (iatSS iatZS)))))))) (by kernel_rfl) (by kernel_rfl) (by kernel_rfl) (fun _ _ _ h => h) (Or.inl ⟨by rfl, ?_⟩) (by assumption) ?_
                    rotate_left
                    · intro w hSw
                      try dsimp only at hSw
                      go_simp
                      all_goals with_reducible rfl
                    try simp only [Act.put, List.setIfInBounds_toArray, List.set_cons_zero, List.set_cons_succ]
                    refine wpAnyH_take (i := 8) (v := ?_) (iatLS (iatSS (iatSS (iatSS (iatSS (iatSS (iatSS (iatSS (iatSS iatZS))))))))) (by kernel_rfl) (by kernel_rfl) (by kernel_rfl) (fun _ _ _ h => h) (Or.inl ⟨by rfl, ?_⟩) (by assumption) ?_
                    rotate_left
                    · intro w hSw
                      try dsimp only at hSw
                      go_simp
                      all_goals with_reducible rfl
                    try simp only [Act.put, List.setIfInBounds_toArray, List.set_cons_zero, List.set_cons_succ]
                    refine wpAnyH_take (i := 9) (v := ?_) (iatLS (iatSS (iatSS (iatSS (iatSS (iatSS (iatSS (iatSS (iatSS (iatSS iatZS)))))))))) (by kernel_rfl) (by kernel_rfl) (by kernel_rfl) (fun _ _ _ h => h) (Or.inl ⟨by rfl, ?_⟩) (by assumption) ?_
                    rotate_left
                    · intro w hSw
                      try dsimp only at hSw
                      go_simp
                      all_goals with_reducible rfl
                    try simp only [Act.put, List.setIfInBounds_toArray, List.set_cons_zero, List.set_cons_succ]
                    refine wpAnyH_take (i := 10) (v := ?_) (iatLS (iatSS (iatSS (iatSS (iatSS (iatSS (iatSS (iatSS (iatSS (iatSS (iatSS iatZS))))))))))) (by kernel_rfl) (by kernel_rfl) (by kernel_rfl) (fun _ _ _ h => h) (Or.inl ⟨by rfl, ?_⟩) (by assumption) ?_
                    rotate_left
                    · intro w hSw
                      try dsimp only at hSw
                      go_simp
                      all_goals with_reducible rfl
                    try simp only [Act.put, List.setIfInBounds_toArray, List.set_cons_zero, List.set_cons_succ]
                    refine wpAnyH_take (i := 11) (v := ?_) (iatLS (iatSS (iatSS (iatSS (iatSS (iatSS (iatSS (iatSS (iatSS (iatSS (iatSS (iatSS iatZS)))))))))))) (by kernel_rfl) (by kernel_rfl) (by kernel_rfl) (fun _ _ _ h => h) (Or.inl ⟨by rfl, ?_⟩) (by assumption) ?_
                    rotate_left
                    · intro w hSw
                      try dsimp only at hSw
                      go_simp
                      all_goals with_reducible rfl
                    try simp only [Act.put, List.setIfInBounds_toArray, List.set_cons_zero, List.set_cons_succ]
                    refine wpAnyH_take (i := 12) (v := ?_) (iatLS (iatSS (iatSS (iatSS (iatSS (iatSS (iatSS (iatSS (iatSS (iatSS (iatSS (iatSS (iatSS iatZS))))))))))))) (by kernel_rfl) (by kernel_rfl) (by kernel_rfl) (fun _ _ _ h => h) (Or.inl ⟨by rfl, ?_⟩) (by assumption) ?_
                    rotate_left
                    · intro w hSw
                      try dsimp only at hSw
                      go_simp
                      all_goals with_reducible rfl
                    try simp only [Act.put, List.setIfInBounds_toArray, List.set_cons_zero, List.set_cons_succ]
                    refine wpAnyH_take (i := 13) (v := ?_) (iatLS (iatSS (iatSS (iatSS (iatSS (iatSS (iatSS (iatSS (iatSS (iatSS (iatSS (iatSS (iatSS (iatSS iatZS)))))))))))))) (by kernel_rfl) (by kernel_rfl) (by kernel_rfl) (fun _ _ _ h => h) (Or.inl ⟨by rfl, ?_⟩) (by assumption) ?_
                    rotate_left
                    · intro w hSw
                      try dsimp only at hSw
                      go_simp
                      all_goals with_reducible rfl
                    try simp only [Act.put, List.setIfInBounds_toArray, List.set_cons_zero, List.set_cons_succ]
                    refine wpAnyH_take (i := 14) (v := ?_) (iatLS (iatSS (iatSS (iatSS (iatSS (iatSS (iatSS (iatSS (iatSS (iatSS (iatSS (iatSS (iatSS (iatSS (iatSS iatZS))))))))))))))) (by kernel_rfl) (by kernel_rfl) (by kernel_rfl) (fun _ _ _ h => h) (Or.inl ⟨by rfl, ?_⟩) (by assumption) ?_
                    rotate_left
                    · intro w hSw
                      try dsimp only at hSw
                      go_simp
                      all_goals with_reducible rfl
                    try simp only [Act.put, List.setIfInBounds_toArray, List.set_cons_zero, List.set_cons_succ]
                    refine wpAnyH_take (i := 15) (v := ?_) (iatLS (iatSS (iatSS (iatSS (iatSS (iatSS (iatSS (iatSS (iatSS (iatSS (iatSS (iatSS (iatSS (iatSS (iatSS (iatSS iatZS)))))))))))))))) (by kernel_rfl) (by kernel_rfl) (by kernel_rfl) (fun _ _ _ h => h) (Or.inl ⟨by rfl, ?_⟩) (by assumption) ?_
                    rotate_left
                    · intro w hSw
                      try dsimp only at hSw
                      go_simp
                      all_goals with_reducible rfl
                    try simp only [Act.put, List.setIfInBounds_toArray, List.set_cons_zero, List.set_cons_succ]
                    refine wpAnyH_take (i := 16) (v := ?_) (iatLS (iatSS (iatSS (iatSS (iatSS (iatSS (iatSS (iatSS (iatSS (iatSS (iatSS (iatSS (iatSS (iatSS (iatSS (iatSS (iatSS iatZS))))))))))))))))) (by kernel_rfl) (by kernel_rfl) (by kernel_rfl) (fun _ _ _ h => h) (Or.inl ⟨by rfl, ?_⟩) (by assumption) ?_
                    rotate_left
                    · intro w hSw
                      try dsimp only at hSw
                      go_simp
                      all_goals with_reducible rfl
                    try simp only [Act.put, List.setIfInBounds_toArray, List.set_cons_zero, List.set_cons_succ]
                    refine wpAnyH_take (i := 17) (v := ?_) (iatLS (iatSS (iatSS (iatSS (iatSS (iatSS (iatSS (iatSS (iatSS (iatSS (iatSS (iatSS (iatSS (iatSS (iatSS (iatSS (iatSS (iatSS iatZS)))))))))))))))))) (by kernel_rfl) (by kernel_rfl) (by kernel_rfl) (fun _ _ _ h => h) (Or.inl ⟨by rfl, ?_⟩) (by assumption) ?_
                    rotate_left
                    · intro w hSw
                      try dsimp only at hSw
                      go_simp
                      all_goals with_reducible rfl
                    try simp only [Act.put, List.setIfInBounds_toArray, List.set_cons_zero, List.set_cons_succ]
                    refine wpAnyH_take (i := 18) (v := ?_) (iatLS (iatSS (iatSS (iatSS (iatSS (iatSS (iatSS (iatSS (iatSS (iatSS (iatSS (iatSS (iatSS (iatSS (iatSS (iatSS (iatSS (iatSS (iatSS iatZS))))))))))))))))))) (by kernel_rfl) (by kernel_rfl) (by kernel_rfl) (fun _ _ _ h => h) (Or.inl ⟨by rfl, ?_⟩) (by assumption) ?_
                    rotate_left
                    · intro w hSw
                      try dsimp only at hSw
                      go_simp
                      all_goals with_reducible rfl
                    try simp only [Act.put, List.setIfInBounds_toArray, List.set_cons_zero, List.set_cons_succ]
                    refine wpAnyH_take (i := 19) (v := ?_) (iatLS (iatSS (iatSS (iatSS (iatSS (iatSS (iatSS (iatSS (iatSS (iatSS (iatSS (iatSS (iatSS (iatSS (iatSS (iatSS (iatSS (iatSS (iatSS (iatSS iatZS)))))))))))))))))))) (by kernel_rfl) (by kernel_rfl) (by kernel_rfl) (fun _ _ _ h => h) (Or.inl ⟨by rfl, ?_⟩) (by assumption) ?_
                    rotate_left
                    · intro w hSw
                      try dsimp only at hSw
                      go_simp
                      all_goals with_reducible rfl
                    try simp only [Act.put, List.setIfInBounds_toArray, List.set_cons_zero, List.set_cons_succ]
                    refine wpAnyH_ready (rs := [20]) (by kernel_rfl) (by simp) ?_
                    refine AllReadyH.cons (iatLS (iatSS (iatSS (iatSS (iatSS (iatSS (iatSS (iatSS (iatSS (iatSS (iatSS (iatSS (iatSS (iatSS (iatSS (iatSS (iatSS (iatSS (iatSS (iatSS (iatSS iatZS))))))))))))))))))))) (fun K hK => ?_) AllReadyH.nil
                    go_simp
                    (with_reducible refine Hp2.out.mono ?_)
                    rintro e8 w8 ⟨rfl, rfl⟩
                    try dsimp only
                    refine hK.out _ _ ?_ (fun hHeld => ?_)
                    · exact HS27.out
                    clear hK K
                    try simp only [Act.put, List.setIfInBounds_toArray, List.set_cons_zero, List.set_cons_succ]
                    refine wpAnyH_take (i := 21) (v := ?_) (iatLS (iatSS (iatSS (iatSS (iatSS (iatSS (iatSS (iatSS (iatSS (iatSS (iatSS (iatSS (iatSS (iatSS (iatSS (iatSS (iatSS (iatSS (iatSS (iatSS (iatSS (iatSS iatZS)))))))))))))))))))))) (by kernel_rfl) (by kernel_rfl) (by kernel_rfl) (fun _ _ _ h => h) (Or.inl ⟨by rfl, ?_⟩) (by assumption) ?_
                    rotate_left
                    · intro w hSw
                      try dsimp only at hSw
                      go_simp
                      all_goals with_reducible rfl
                    try simp only [Act.put, List.setIfInBounds_toArray, List.set_cons_zero, List.set_cons_succ]
                    refine wpAnyH_take (i := 22) (v := ?_) (iatLS (iatSS (iatSS (iatSS (iatSS (iatSS (iatSS (iatSS (iatSS (iatSS (iatSS (iatSS (iatSS (iatSS (iatSS (iatSS (iatSS (iatSS (iatSS (iatSS (iatSS (iatSS (iatSS iatZS))))))))))))))))))))))) (by kernel_rfl) (by kernel_rfl) (by kernel_rfl) (fun _ _ _ h => h) (Or.inl ⟨by rfl, ?_⟩) (by assumption) ?_
                    rotate_left
                    · intro w hSw
                      try dsimp only at hSw
                      go_simp
                      all_goals with_reducible rfl
                    try simp only [Act.put, List.setIfInBounds_toArray, List.set_cons_zero, List.set_cons_succ]
                    refine wpAnyH_take (i := 23) (v := ?_) (iatLS (iatSS (iatSS (iatSS (iatSS (iatSS (iatSS (iatSS (iatSS (iatSS (iatSS (iatSS (iatSS (iatSS (iatSS (iatSS (iatSS (iatSS (iatSS (iatSS (iatSS (iatSS (iatSS (iatSS iatZS)))))))))))))))))))))))) (by kernel_rfl) (by kernel_rfl) (by kernel_rfl) (fun _ _ _ h => h) (Or.inl ⟨by rfl, ?_⟩) (by assumption) ?_
                    rotate_left
                    · intro w hSw
                      try dsimp only at hSw
                      go_simp
                      all_goals with_reducible rfl
                    try simp only [Act.put, List.setIfInBounds_toArray, List.set_cons_zero, List.set_cons_succ]
                    refine wpAnyH_done (by kernel_rfl) ?_ _
                    go_wp2_with (fail)
                    exact ⟨⟨i + 1, by omega, by go_num, Hb9d.out⟩, by simp [RowKit.intOf]; omega⟩
                · have hge : (0 : Int) ≤ x := by omega
                  subst ha
                  clear hrow hbw
                  go_wp2_with (fail)
                  exact ⟨⟨i + 1, by omega, by go_num, hbr⟩, by simp [RowKit.intOf]; omega⟩
              · have hie : i = EL := by omega
                have hiI : ¬ (i : Int) < (EL : Int) := by omega
                clear hie
                go_wp2_with (fail)
                exact ⟨⟨j + 1, by omega, by go_num, hbr⟩, by simp [RowKit.intOf]; omega⟩
        · have hje : j = M := by omega
          have hjI : ¬ (j : Int) < (M : Int) := by omega
          clear hje
          go_wp2_with (fail)
          exact ⟨⟨k + 1, by omega, by go_num, hbr⟩, by simp [RowKit.intOf]; omega⟩
    · have hke : k = L := by omega
      have hkI : ¬ (k : Int) < (L : Int) := by omega
      have hbe := Hb8.out.trans (hbr.mono Hb8.out.size)
      clear hke
      go_wp2_with (fail)
      exact bodyPost_ret (v := .bool true) (by simp [results, Try.results6, go_sem]; try first | rfl | assumption | omega) rfl ⟨rfl, hbe⟩
end Go.Proofs.Ytiopbjgpaidemaa

