/- The row SetsSplit in its second form: for every grammar by numbers and two lists whose reading is of bulk at most 1048576: the law answers true and changes nothing that was there. -/
/- Texts joined: Wn Kk Wp PSp. -/
import Derived.Test.YtiopbjgpaidemaaRQAp
import Derived.Test.YtiopbjgpaidemaaRQAu
import Derived.Test.YtiopbjgpaidemaaRQAi
import Derived.Test.YtiopbjgpaidemaaRQAa
set_option linter.unusedVariables false
set_option linter.unusedSimpArgs false
namespace Go.Proofs.Ytiopbjgpaidemaa
open Go.RowKit Go.Maps

attribute [local go_sem] Oper.semAt_some

/-- What begins a list is a grammar's token. -/
theorem tok_near {d : CfD} (hf : FitC d) {f : Nat → Bool} {l : List Int} (hl : OkL d.toks.length d.alts.length l) {t : Int} (h : TokP (d.alts.map IrD.p) f l t) : 0 ≤ t ∧ t ≤ 100 := by
  have := rchd_near hf (fun x hx => ⟨(hl x hx).1, by have := (hl x hx).2; have := hf.t; omega⟩) h.2
  exact ⟨h.1, this.2⟩
theorem tok_app {al : List (List (List Int))} {f : Nat → Bool} {s u : List Int} {t : Int} : TokP al f (s ++ u) t ↔ TokP al f s t ∨ TokP al f u t := by
  rw [tok_iff, tok_iff (l := s), tok_iff (l := u)]
  constructor
  · rintro ⟨x, hx, h⟩
    rcases List.mem_append.1 hx with hx | hx
    · exact .inl ⟨x, hx, h⟩
    · exact .inr ⟨x, hx, h⟩
  · rintro (⟨x, hx, h⟩ | ⟨x, hx, h⟩)
    · exact ⟨x, List.mem_append.2 (.inl hx), h⟩
    · exact ⟨x, List.mem_append.2 (.inr hx), h⟩
theorem ris_len101 {l : List Int} {P : Int → Prop} (h : Ris l P) (hP : ∀ t, P t → 0 ≤ t ∧ t ≤ 100) : l.length ≤ 300 := by
  have := ris_len h (nearU 0) (fun x hx => nearU_mem.2 (by have := hP x hx; omega))
  have e : (nearU 0).length = 300 := by unfold nearU; rw [List.length_map, List.length_range]
  omega
theorem ahd_ok {T n : Nat} {f : Nat → Bool} {s : List Int} (h : OkL T n s) : OkL T n (ahd f s) := fun x hx => h x (ahd_sub hx)
theorem ris_take {y : List Int} {P : Int → Prop} {r : List Int} {k : Nat} (h : k < y.length) (hr : Ris r (fun t => P t ∨ t ∈ y.take k)) : Ris (withZ r y[k]) (fun t => P t ∨ t ∈ y.take (k + 1)) := by
  refine ⟨withZ_up hr.up, fun t => ?_⟩
  rw [withZ_mem, hr.mem t, List.take_add_one, List.getElem?_eq_getElem h, List.mem_append]
  constructor
  · rintro ((h1 | h1) | h1)
    · exact .inl h1
    · exact .inr (.inl h1)
    · exact .inr (.inr (by simp [h1]))
  · rintro (h1 | h1 | h1)
    · exact .inl (.inl h1)
    · exact .inl (.inr h1)
    · exact .inr (by simpa using h1)
set_option maxRecDepth 100000 in
set_option maxHeartbeats 16000000 in
theorem lawSplit_any (d : CfD) (p q : List Int) (pa qa : Option Addr) (pc qc : Nat) (w : World) (hd : CfAt w d) (h1 : ∀ t ∈ d.toks, t.size ≤ maxLen) (h2 : ∀ t ∈ d.names, t.size ≤ maxLen) (h3 : ∀ r ∈ d.alts, ∀ a ∈ r.ds, ∀ x ∈ a.l, -9223372036854775808 ≤ x ∧ x ≤ 9223372036854775807) (hs : d.toks.length + d.names.length + szC (d.alts.map IrD.p) ≤ 1000000000000)
    (hp : Ints w pa pc p) (hq : Ints w qa qc q) (hpr : ∀ x ∈ p, -9223372036854775808 ≤ x ∧ x ≤ 9223372036854775807) (hqr : ∀ x ∈ q, -9223372036854775808 ≤ x ∧ x ≤ 9223372036854775807) :
    Calls Try.prog 7 #[d.v, .slice pa p.length pc, .slice qa q.length qc] w fun e w' => e = .returned (.bool true) ∧ Below w.heap.size w w' := by
  have HF := Lib.hid (fun W (hb : Below w.heap.size w W) => few9_any d W (hd.grown hb) h1 h2 h3 hs)
  have Hfit : Hid (few9 d = true → FitC d) := Lib.hid few9_fit
  have Hwp : Hid (FitC d → p.length ≤ 50 → ∀ W, Below w.heap.size w W → Calls Try.prog 32 #[d.v, .slice pa p.length pc] W fun e w' => ∃ a c, e = .returned (.slice a (witP d.toks.length d.alts.length p).length c) ∧ OwnKZ w' W.heap.size a c (witP d.toks.length d.alts.length p) ∧ Below W.heap.size W w') := Lib.hid (fun hf hl W hb => within_any d p pa pc W (hp.grown hb) (by omega) hpr (hd.grown hb) ⟨by have := hf.r; omega, by have := hf.t; omega⟩)
  have Hwq : Hid (FitC d → q.length ≤ 50 → ∀ W, Below w.heap.size w W → Calls Try.prog 32 #[d.v, .slice qa q.length qc] W fun e w' => ∃ a c, e = .returned (.slice a (witP d.toks.length d.alts.length q).length c) ∧ OwnKZ w' W.heap.size a c (witP d.toks.length d.alts.length q) ∧ Below W.heap.size W w') := Lib.hid (fun hf hl W hb => within_any d q qa qc W (hq.grown hb) (by omega) hqr (hd.grown hb) ⟨by have := hf.r; omega, by have := hf.t; omega⟩)
  have Hld := Lib.hid (fun (hf : FitC d) W (hb : Below w.heap.size w W) (s : List Int) sa sc (hs : Ints W sa sc s) (hok : OkL d.toks.length d.alts.length s) (hsl : s.length ≤ 1000) => sLead_any d s sa sc W (hd.grown hb) hf hs hok hsl)
  have Htn := Lib.hid (fun (hf : FitC d) (s : List Int) (hok : OkL d.toks.length d.alts.length s) (t : Int) (ht : TokP (d.alts.map IrD.p) (nulB (d.alts.map IrD.p)) s t) => tok_near hf hok ht)
  have hpm : p.length ≤ pc ∧ pc ≤ 9223372036854775807 := ⟨by have := hp.le; rwa [List.length_map] at this, hp.max⟩
  have hqm : q.length ≤ qc ∧ qc ≤ 9223372036854775807 := ⟨by have := hq.le; rwa [List.length_map] at this, hq.max⟩
  obtain ⟨B, hB⟩ : ∃ q, Hid (few9 d = q) := ⟨_, Lib.hid rfl⟩
  rw [hB.out] at HF Hfit
  obtain ⟨PL, HPL⟩ : ∃ q, Hid (p.length = q) := ⟨_, Lib.hid rfl⟩
  obtain ⟨QL, HQL⟩ : ∃ v, Hid (q.length = v) := ⟨_, Lib.hid rfl⟩
  rw [HPL.out] at Hwp hpm ⊢
  rw [HQL.out] at Hwq hqm ⊢
  have hwl1 : (witP d.toks.length d.alts.length p).length ≤ PL := by rw [← HPL.out]; exact witP_len _ _ _
  have hwl2 : (witP d.toks.length d.alts.length q).length ≤ QL := by rw [← HQL.out]; exact witP_len _ _ _
  have Hok1 := Lib.hid (witP_ok d.toks.length d.alts.length p)
  have Hok2 := Lib.hid (witP_ok d.toks.length d.alts.length q)
  obtain ⟨A, hA9⟩ : ∃ v, Hid (witP d.toks.length d.alts.length p = v) := ⟨_, Lib.hid rfl⟩
  obtain ⟨C, hC9⟩ : ∃ v, Hid (witP d.toks.length d.alts.length q = v) := ⟨_, Lib.hid rfl⟩
  rw [hA9.out] at Hwp hwl1 Hok1
  rw [hC9.out] at Hwq hwl2 Hok2
  obtain ⟨al, hal9⟩ : ∃ v, Hid (d.alts.map IrD.p = v) := ⟨_, Lib.hid rfl⟩
  rw [hal9.out] at Hld Htn
  obtain ⟨f, hf9⟩ : ∃ v, Hid (nulB al = v) := ⟨_, Lib.hid rfl⟩
  rw [hf9.out] at Hld Htn
  have Htn' : Hid (FitC d → ∀ s, OkL d.toks.length d.alts.length s → ∀ t, TokP al f (ahd f s) t → 0 ≤ t ∧ t ≤ 100) := Lib.hid (fun hf s hok t ht => Htn.out hf (ahd f s) (ahd_ok hok) t ht)
  obtain ⟨Fit, hFit⟩ : ∃ v, Hid (FitC d = v) := ⟨_, Lib.hid rfl⟩
  obtain ⟨OK, hOK⟩ : ∃ v, Hid (OkL d.toks.length d.alts.length = v) := ⟨_, Lib.hid rfl⟩
  have Hokapp : Hid (OK A → OK C → OK (A ++ C)) := Lib.hid (by
    rw [← hOK.out]
    intro h1 h2 x hx
    rcases List.mem_append.1 hx with hx | hx
    · exact h1 x hx
    · exact h2 x hx)
  rw [hFit.out] at Hfit Hwp Hwq Hld Htn'
  rw [hOK.out] at Hld Hok1 Hok2 Htn'
  obtain ⟨xt, xta, xtc, xn, xna, xnc, xa, xaa, xac⟩ := d
  dsimp only [CfD.v] at HF Hwp Hwq Hld ⊢
  have hb1 : Below w.heap.size w (w.alloc (.cells #[.slice xta xt.length xtc, .slice xna xn.length xnc, .slice xaa xa.length xac] 41)) := (Below.refl _ w).alloc (Nat.le_refl _) _
  have hA := Blk.new w 41 #[.slice xta xt.length xtc, .slice xna xn.length xnc, .slice xaa xa.length xac]
  obtain ⟨T, HT⟩ : ∃ q, Hid (xt.length = q) := ⟨_, Lib.hid rfl⟩
  obtain ⟨N, HN⟩ : ∃ q, Hid (xn.length = q) := ⟨_, Lib.hid rfl⟩
  obtain ⟨L, HL⟩ : ∃ q, Hid (xa.length = q) := ⟨_, Lib.hid rfl⟩
  rw [HT.out, HN.out, HL.out] at hA hb1 HF Hwp Hwq Hld ⊢
  have HF' : Hid (∀ W, Below w.heap.size w W → Calls Try.prog 20 #[.agg #[.slice xta T xtc, .slice xna N xnc, .slice xaa L xac]] W fun e w' => e = .returned (.bool B) ∧ Below W.heap.size W w') := HF
  have x0 := hA.cell 0
  have x1 := hA.cell 1
  have x2 := hA.cell 2
  have xl := hA.lt
  simp only [List.getElem?_cons_zero, List.getElem?_cons_succ] at x0 x1 x2
  have HA := Lib.hid hA
  have Hb1 := Lib.hid hb1
  clear hA hp hq hb1 h1 h2 h3 hs HF hd hpr hqr Htn
  go_enter Try.func7, Try.ntmps7
  go_wp2_with (fail)
  obtain ⟨bx, hbx⟩ : ∃ q, Hid (w.heap.size = q) := ⟨_, Lib.hid rfl⟩
  rw [hbx.out] at HA xl x0 x1 x2 ⊢
  generalize hV : World.alloc w _ = V1 at HA x0 x1 x2 xl Hb1 ⊢
  clear hV
  refine (live9_any V1).mono ?_
  rintro e w2 ⟨rfl, hb⟩
  have HA2 := Lib.hid (HA.out.below hb HA.out.lt)
  have Hb2 := Lib.hid (Hb1.out.trans (hb.mono Hb1.out.size))
  clear x0 x1 x2 xl hb
  have x0 := HA2.out.cell 0
  have x1 := HA2.out.cell 1
  have x2 := HA2.out.cell 2
  have xl := HA2.out.lt
  simp only [List.getElem?_cons_zero, List.getElem?_cons_succ] at x0 x1 x2
  by_cases hp50 : 50 < PL
  · have hpI : (50 : Int) < (PL : Int) := by omega
    go_wp2_with (fail)
    refine (HF'.out w2 Hb2.out).mono ?_
    rintro e w3 ⟨rfl, hb⟩
    have HA3 := Lib.hid (HA2.out.below hb HA2.out.lt)
    have Hb3 := Lib.hid (Hb2.out.trans (hb.mono Hb2.out.size))
    clear x0 x1 x2 xl hb HF'
    cases B <;> go_wp2_with (fail)
    all_goals exact bodyPost_ret (v := .bool true) (by simp [results, Try.results7, go_sem]; try first | rfl | assumption | omega) rfl ⟨rfl, Hb3.out⟩
  have hpI : ¬ (50 : Int) < (PL : Int) := by omega
  by_cases hq50 : 50 < QL
  · have hqI : (50 : Int) < (QL : Int) := by omega
    go_wp2_with (fail)
    refine (HF'.out w2 Hb2.out).mono ?_
    rintro e w3 ⟨rfl, hb⟩
    have HA3 := Lib.hid (HA2.out.below hb HA2.out.lt)
    have Hb3 := Lib.hid (Hb2.out.trans (hb.mono Hb2.out.size))
    clear x0 x1 x2 xl hb HF'
    cases B <;> go_wp2_with (fail)
    all_goals exact bodyPost_ret (v := .bool true) (by simp [results, Try.results7, go_sem]; try first | rfl | assumption | omega) rfl ⟨rfl, Hb3.out⟩
  have hqI : ¬ (50 : Int) < (QL : Int) := by omega
  go_wp2_with (fail)
  refine (HF'.out w2 Hb2.out).mono ?_
  rintro e w3 ⟨rfl, hb⟩
  have HA3 := Lib.hid (HA2.out.below hb HA2.out.lt)
  have Hb3 := Lib.hid (Hb2.out.trans (hb.mono Hb2.out.size))
  clear x0 x1 x2 xl hb HF'
  cases B
  · go_wp2_with (fail)
    exact bodyPost_ret (v := .bool true) (by simp [results, Try.results7, go_sem]; try first | rfl | assumption | omega) rfl ⟨rfl, Hb3.out⟩
  have hfit := Hfit.out rfl
  have Hwp2 := Lib.hid (Hwp.out hfit (by omega))
  have Hwq2 := Lib.hid (Hwq.out hfit (by omega))
  have Hld2 := Lib.hid (Hld.out hfit)
  have Htn2 := Lib.hid (Htn'.out hfit)
  clear Hwp Hwq Hld Htn' Hfit hfit
  have x0 := HA3.out.cell 0
  have x1 := HA3.out.cell 1
  have x2 := HA3.out.cell 2
  have xl := HA3.out.lt
  simp only [List.getElem?_cons_zero, List.getElem?_cons_succ] at x0 x1 x2
  go_wp2_with (fail)
  refine (Hwp2.out w3 Hb3.out).mono ?_
  rintro e w4 ⟨aa, ac, rfl, ho, hb⟩
  have Hp4 := Lib.hid ho.vs
  have HA4 := Lib.hid (HA3.out.below hb HA3.out.lt)
  have Hb4 := Lib.hid (Hb3.out.trans (hb.mono Hb3.out.size))
  clear x0 x1 x2 xl hb ho Hwp2
  have x0 := HA4.out.cell 0
  have x1 := HA4.out.cell 1
  have x2 := HA4.out.cell 2
  have xl := HA4.out.lt
  simp only [List.getElem?_cons_zero, List.getElem?_cons_succ] at x0 x1 x2
  go_wp2_with (fail)
  refine (Hwq2.out w4 Hb4.out).mono ?_
  rintro e w5 ⟨ca, cc, rfl, ho, hb⟩
  have Hq5 := Lib.hid ho.vs
  have Hp5 := Lib.hid (Hp4.out.grown hb)
  have HA5 := Lib.hid (HA4.out.below hb HA4.out.lt)
  have Hb5 := Lib.hid (Hb4.out.trans (hb.mono Hb4.out.size))
  clear x0 x1 x2 xl hb ho Hwq2
  have x0 := HA5.out.cell 0
  have x1 := HA5.out.cell 1
  have x2 := HA5.out.cell 2
  have xl := HA5.out.lt
  simp only [List.getElem?_cons_zero, List.getElem?_cons_succ] at x0 x1 x2
  go_wp2_with (fail)
  refine (Hld2.out w5 Hb5.out A aa ac Hp5.out Hok1.out (by omega)).mono ?_
  rintro e w6 ⟨ya, yc, y1, rfl, hr1, ho, hb⟩
  have HR1 := Lib.hid hr1
  have Hy6 := Lib.hid ho.vs
  have Hp6 := Lib.hid (Hp5.out.grown hb)
  have Hq6 := Lib.hid (Hq5.out.grown hb)
  have HA6 := Lib.hid (HA5.out.below hb HA5.out.lt)
  have Hb6 := Lib.hid (Hb5.out.trans (hb.mono Hb5.out.size))
  clear x0 x1 x2 xl hb ho hr1
  have x0 := HA6.out.cell 0
  have x1 := HA6.out.cell 1
  have x2 := HA6.out.cell 2
  have xl := HA6.out.lt
  simp only [List.getElem?_cons_zero, List.getElem?_cons_succ] at x0 x1 x2
  go_wp2_with (fail)
  refine (Hld2.out w6 Hb6.out C ca cc Hq6.out Hok2.out (by omega)).mono ?_
  rintro e w7 ⟨za, zc, y2, rfl, hr2, ho, hb⟩
  have HR2 := Lib.hid hr2
  have Hz7 := Lib.hid ho.vs
  have Hy7 := Lib.hid (Hy6.out.grown hb)
  have Hp7 := Lib.hid (Hp6.out.grown hb)
  have Hq7 := Lib.hid (Hq6.out.grown hb)
  have HA7 := Lib.hid (HA6.out.below hb HA6.out.lt)
  have Hb7 := Lib.hid (Hb6.out.trans (hb.mono Hb6.out.size))
  clear x0 x1 x2 xl hb ho hr2
  -- the two put together
  have hb7d : Below w7.heap.size w7 w7.drew := (Below.refl _ w7).drew
  obtain ⟨a1, c1, v1, hrun1, ho1, hbv1⟩ := (OwnKZ.nil w7.drew w7.drew.heap.size).app aa ac A (Hp7.out.grown hb7d) 50 (by simp; omega) (Nat.le_refl _)
  rw [List.nil_append] at ho1
  rw [show ([] : List Int).length = 0 from rfl, Nat.zero_add] at hrun1
  have hq1 := (Hq7.out.grown hb7d).grown hbv1
  obtain ⟨a2, c2, v2, hrun2, ho2, hbv2⟩ := ho1.app ca cc C hq1 50 (by omega) hbv1.size
  have hbv2' : Below w7.heap.size w7 v2 := hb7d.trans (hbv1.trans hbv2)
  have hbv1' : Below w7.heap.size w7 v1 := hb7d.trans hbv1
  have Hrun1 := Lib.hid hrun1
  have Hrun2 := Lib.hid hrun2
  have HBv1 := Lib.hid (HA7.out.below hbv1' HA7.out.lt)
  have HAv2 := Lib.hid (HA7.out.below hbv2' HA7.out.lt)
  have Hbv2 := Lib.hid (Hb7.out.trans (hbv2'.mono Hb7.out.size))
  have Hac2 : Hid (Ints v2 a2 c2 (A ++ C)) := Lib.hid ho2.vs
  have Hyv := Lib.hid (Hy7.out.grown hbv2')
  have Hzv := Lib.hid (Hz7.out.grown hbv2')
  have hacl : (A ++ C).length = A.length + C.length := List.length_append
  have Hld3 := Lib.hid (Hld2.out v2 Hbv2.out (A ++ C) a2 c2 Hac2.out (Hokapp.out Hok1.out Hok2.out) (by omega))
  rw [hacl] at Hld3
  clear hrun1 hrun2 ho1 ho2 hq1 hbv1 hbv2 hbv1' hbv2' hb7d hacl
  have HS0 : Hid (w7.drew.cell? ⟨bx, 0, none⟩ = some (.slice xta T xtc) ∧ w7.drew.cell? ⟨bx, 1, none⟩ = some (.slice xna N xnc) ∧ w7.drew.cell? ⟨bx, 2, none⟩ = some (.slice xaa L xac)) := Lib.hid ⟨HA7.out.cell 0, HA7.out.cell 1, HA7.out.cell 2⟩
  have HS1 : Hid (v1.cell? ⟨bx, 0, none⟩ = some (.slice xta T xtc) ∧ v1.cell? ⟨bx, 1, none⟩ = some (.slice xna N xnc) ∧ v1.cell? ⟨bx, 2, none⟩ = some (.slice xaa L xac)) := Lib.hid ⟨HBv1.out.cell 0, HBv1.out.cell 1, HBv1.out.cell 2⟩
  have HS2 : Hid (v2.cell? ⟨bx, 0, none⟩ = some (.slice xta T xtc) ∧ v2.cell? ⟨bx, 1, none⟩ = some (.slice xna N xnc) ∧ v2.cell? ⟨bx, 2, none⟩ = some (.slice xaa L xac)) := Lib.hid ⟨HAv2.out.cell 0, HAv2.out.cell 1, HAv2.out.cell 2⟩
  have He3 := emp_app f A C
  have Ha3 := Lib.hid (ahd_app (f := f) A C)
  have hy2l := Lib.hid (ris_len101 HR2.out (fun t ht => Htn2.out C Hok2.out t ht))
  have hy1l := Lib.hid (ris_len101 HR1.out (fun t ht => Htn2.out A Hok1.out t ht))
  have Hae := Lib.hid (fun (h : emp f A = true) => ahd_emp h)
  rw [He3] at Hld3
  obtain ⟨AL, hAL⟩ : ∃ q, Hid (A.length = q) := ⟨_, Lib.hid rfl⟩
  obtain ⟨CL, hCL⟩ : ∃ q, Hid (C.length = q) := ⟨_, Lib.hid rfl⟩
  rw [hAL.out] at Hrun1 Hrun2 Hld3
  rw [hCL.out] at Hrun2 Hld3
  have hzm : y2.length ≤ zc ∧ zc ≤ 9223372036854775807 := ⟨by have := Hzv.out.le; rwa [List.length_map] at this, Hzv.out.max⟩
  obtain ⟨Y1, hY1⟩ : ∃ q, Hid (y1.length = q) := ⟨_, Lib.hid rfl⟩
  obtain ⟨Y2, hY2⟩ : ∃ q, Hid (y2.length = q) := ⟨_, Lib.hid rfl⟩
  rw [hAL.out, hCL.out, hY1.out, hY2.out]
  rw [hY2.out] at hzm
  obtain ⟨E1, hE1⟩ : ∃ q, Hid (emp f A = q) := ⟨_, Lib.hid rfl⟩
  obtain ⟨E2, hE2⟩ : ∃ q, Hid (emp f C = q) := ⟨_, Lib.hid rfl⟩
  rw [hE1.out, hE2.out] at Hld3
  rw [hE1.out] at Ha3 Hae
  rw [hE1.out, hE2.out]
  clear He3
  go_wp2_with (fail)
  refine wp_region_held_drew (S := fun w' => w'.cell? ⟨bx, 0, none⟩ = some (.slice xta T xtc) ∧ w'.cell? ⟨bx, 1, none⟩ = some (.slice xna N xnc) ∧ w'.cell? ⟨bx, 2, none⟩ = some (.slice xaa L xac)) (by kernel_rfl) ?_ (fun hHeld => ?_)
  · exact HS0.out
  refine wpAnyH_take (i := 0) (v := ?_) (iatLS iatZS) (by kernel_rfl) (by kernel_rfl) (by kernel_rfl) (fun _ _ _ h => h) (Or.inl ⟨by rfl, ?_⟩) (by assumption) ?_
  rotate_left
  · intro w hSw
    try dsimp only at hSw
    go_simp
    all_goals with_reducible rfl
  try simp only [Act.put, List.setIfInBounds_toArray, List.set_cons_zero, List.set_cons_succ]
  refine wpAnyH_take (i := 1) (v := ?_) (iatLS (iatSS iatZS)) (by kernel_rfl) (by kernel_rfl) (by kernel_rfl) (fun _ _ _ h => h) (Or.inl ⟨by rfl, ?_⟩) (by assumption) ?_
  rotate_left
  · intro w hSw
    try dsimp only at hSw
    go_simp
    all_goals with_reducible rfl
  try simp only [Act.put, List.setIfInBounds_toArray, List.set_cons_zero, List.set_cons_succ]
  refine wpAnyH_take (i := 3) (v := ?_) (iatLS (iatSS (iatSS (iatSS iatZS)))) (by kernel_rfl) (by kernel_rfl) (by kernel_rfl) (fun _ _ _ h => h) (Or.inl ⟨by rfl, ?_⟩) (by assumption) ?_
  rotate_left
  · intro w hSw
    try dsimp only at hSw
    go_simp
    all_goals with_reducible rfl
  try simp only [Act.put, List.setIfInBounds_toArray, List.set_cons_zero, List.set_cons_succ]
  refine wpAnyH_ready (rs := [2]) (by kernel_rfl) (by simp) ?_
  refine AllReadyH.cons (iatLS (iatSS (iatSS iatZS))) (fun K hK => ?_) AllReadyH.nil
  refine step_append_run rfl _ _ 50 50 rfl _ _ _ _ rfl rfl Hrun1.out ?_
  refine hK.out _ _ ?_ (fun hHeld => ?_)
  · exact HS1.out
  clear hK K
  try simp only [Act.put, List.setIfInBounds_toArray, List.set_cons_zero, List.set_cons_succ]
  refine wpAnyH_ready (rs := [4]) (by kernel_rfl) (by simp) ?_
  refine AllReadyH.cons (iatLS (iatSS (iatSS (iatSS (iatSS iatZS))))) (fun K hK => ?_) AllReadyH.nil
  refine step_append_run rfl _ _ 50 50 rfl _ _ _ _ rfl rfl Hrun2.out ?_
  refine hK.out _ _ ?_ (fun hHeld => ?_)
  · exact HS2.out
  clear hK K
  try simp only [Act.put, List.setIfInBounds_toArray, List.set_cons_zero, List.set_cons_succ]
  refine wpAnyH_ready (rs := [5]) (by kernel_rfl) (by simp) ?_
  refine AllReadyH.cons (iatLS (iatSS (iatSS (iatSS (iatSS (iatSS iatZS)))))) (fun K hK => ?_) AllReadyH.nil
  go_simp
  (with_reducible refine Hld3.out.mono ?_)
  rintro e8 w8 ⟨ra, rc, y3, rfl, hr3, ho3, hb8⟩
  have HR3 := Lib.hid hr3
  have Hz8 := Lib.hid ho3.vs
  have Hy8 := Lib.hid (Hyv.out.grown hb8)
  have Hz28 := Lib.hid (Hzv.out.grown hb8)
  have HA8 := Lib.hid (HAv2.out.below hb8 HAv2.out.lt)
  have Hb8 := Lib.hid (Hbv2.out.trans (hb8.mono Hbv2.out.size))
  have HS8 : Hid (w8.cell? ⟨bx, 0, none⟩ = some (.slice xta T xtc) ∧ w8.cell? ⟨bx, 1, none⟩ = some (.slice xna N xnc) ∧ w8.cell? ⟨bx, 2, none⟩ = some (.slice xaa L xac)) := Lib.hid ⟨HA8.out.cell 0, HA8.out.cell 1, HA8.out.cell 2⟩
  obtain ⟨Y3, hY3⟩ : ∃ q, Hid (y3.length = q) := ⟨_, Lib.hid rfl⟩
  rw [hY3.out]
  clear hr3 ho3 hb8
  try dsimp only
  refine hK.out _ _ ?_ (fun hHeld => ?_)
  · exact HS8.out
  clear hK K
  try simp only [Act.put, List.setIfInBounds_toArray, List.set_cons_zero, List.set_cons_succ]
  refine wpAnyH_take (i := 6) (v := ?_) (iatLS (iatSS (iatSS (iatSS (iatSS (iatSS (iatSS iatZS))))))) (by kernel_rfl) (by kernel_rfl) (by kernel_rfl) (fun _ _ _ h => h) (Or.inl ⟨by rfl, ?_⟩) (by assumption) ?_
  rotate_left
  · intro w hSw
    try dsimp only at hSw
    go_simp
    all_goals with_reducible rfl
  try simp only [Act.put, List.setIfInBounds_toArray, List.set_cons_zero, List.set_cons_succ]
  refine wpAnyH_take (i := 7) (v := ?_) (iatLS (iatSS (iatSS (iatSS (iatSS (iatSS (iatSS (iatSS iatZS)))))))) (by kernel_rfl) (by kernel_rfl) (by kernel_rfl) (fun _ _ _ h => h) (Or.inl ⟨by rfl, ?_⟩) (by assumption) ?_
  rotate_left
  · intro w hSw
    try dsimp only at hSw
    go_simp
    all_goals with_reducible rfl
  try simp only [Act.put, List.setIfInBounds_toArray, List.set_cons_zero, List.set_cons_succ]
  refine wpAnyH_take (i := 8) (v := ?_) (iatLS (iatSS (iatSS (iatSS (iatSS (iatSS (iatSS (iatSS (iatSS iatZS))))))))) (by kernel_rfl) (by kernel_rfl) (by kernel_rfl) (fun _ _ _ h => h) (Or.inl ⟨by rfl, ?_⟩) (by assumption) ?_
  rotate_left
  · intro w hSw
    try dsimp only at hSw
    go_simp
    all_goals with_reducible rfl
  try simp only [Act.put, List.setIfInBounds_toArray, List.set_cons_zero, List.set_cons_succ]
  refine wpAnyH_take (i := 9) (v := ?_) (iatLS (iatSS (iatSS (iatSS (iatSS (iatSS (iatSS (iatSS (iatSS (iatSS iatZS)))))))))) (by kernel_rfl) (by kernel_rfl) (by kernel_rfl) (fun _ _ _ h => h) (Or.inl ⟨by rfl, ?_⟩) (by assumption) ?_
  rotate_left
  · intro w hSw
    try dsimp only at hSw
    go_simp
    all_goals with_reducible rfl
  try simp only [Act.put, List.setIfInBounds_toArray, List.set_cons_zero, List.set_cons_succ]
  refine wpAnyH_take (i := 10) (v := ?_) (iatLS (iatSS (iatSS (iatSS (iatSS (iatSS (iatSS (iatSS (iatSS (iatSS (iatSS iatZS))))))))))) (by kernel_rfl) (by kernel_rfl) (by kernel_rfl) (fun _ _ _ h => h) (Or.inl ⟨by rfl, ?_⟩) (by assumption) ?_
  rotate_left
  · intro w hSw
    try dsimp only at hSw
    go_simp
    all_goals with_reducible rfl
  try simp only [Act.put, List.setIfInBounds_toArray, List.set_cons_zero, List.set_cons_succ]
  refine wpAnyH_done (by kernel_rfl) ?_ _
  cases E1
  · have Ha : ahd f (A ++ C) = ahd f A := by rw [Ha3.out]; rfl
    have HR4 := HR3.out
    rw [Ha] at HR4
    have hxe : y1 = y3 := HR1.out.same HR4 (fun _ => Iff.rfl)
    have Hs := sameInts8_any ya ra yc rc y1 y3 w8 Hy8.out Hz8.out
    rw [decide_eq_true hxe, hY1.out, hY3.out] at Hs
    have Hs' := Lib.hid Hs
    clear Hs hxe HR4 Ha
    cases E2
    all_goals
      go_wp2_with (fail)
      refine Hs'.out.mono ?_
      rintro e w9 ⟨rfl, hb9⟩
      have Hb9 := Lib.hid (Hb8.out.trans (hb9.mono Hb8.out.size))
      clear hb9
      go_wp2_with (fail)
      exact bodyPost_ret (v := .bool true) (by simp [results, Try.results7, go_sem]; try first | rfl | assumption | omega) rfl ⟨rfl, Hb9.out⟩
  · have Ha : ahd f (A ++ C) = A ++ ahd f C := by rw [Ha3.out]; rfl
    have HR4 := HR3.out
    rw [Ha] at HR4
    have HR1' : Hid (Ris y1 (TokP al f A)) := Lib.hid (by have := HR1.out; rwa [Hae.out rfl] at this)
    have Hend : Hid (∀ r : List Int, Ris r (fun t => TokP al f A t ∨ t ∈ y2) → r = y3) := Lib.hid (fun r hr => hr.same HR4 (fun t => by rw [tok_app, HR2.out.mem t]))
    have Hae2 : Hid (ahd f A = A) := Lib.hid (Hae.out rfl)
    clear HR4 Ha Hae
    go_wp2_with (fail)
    go_loopw [8, 61] (fun sv iv wr => ∃ (k n : Nat) (xa' : Option Addr) (xc' : Nat) (r : List Int), k ≤ Y2 ∧ iv = .int .i64 (k : Int) ∧ sv = .slice xa' n xc' ∧ Hid (n = r.length) ∧ Hid (Ints wr xa' xc' r) ∧ Hid (Ris r (fun t => TokP al f A t ∨ t ∈ y2.take k)) ∧ Below w8.heap.size w8 wr) (fun _ iv _ => Y2 - (RowKit.intOf iv).toNat)
    case atStart => exact ⟨0, Y1, ya, yc, y1, Nat.zero_le _, rfl, rfl, Lib.hid hY1.out.symm, Hy8, Lib.hid ⟨HR1'.out.up, fun t => by rw [HR1'.out.mem t]; simp⟩, Below.refl _ _⟩
    case round =>
      obtain ⟨k, n, xa', xc', r, hk, rfl, rfl, hn, HI, HR, hbr⟩ := hrel
      obtain ⟨U, rfl⟩ : ∃ U, U = wr := ⟨_, rfl⟩
      by_cases hlt : k < Y2
      · have hkI : (k : Int) < (Y2 : Int) := by omega
        have hkI0 : (0 : Int) ≤ (k : Int) := by omega
        have hkl : k < y2.length := by rw [hY2.out]; exact hlt
        have hrow := Hz28.out.grown hbr
        have HRn := Lib.hid (ris_take hkl HR.out)
        have hrl : r.length ≤ 300 := ris_len101 HR.out (fun t ht => by
          rcases ht with ht | ht
          · exact Htn2.out A Hok1.out t (by rw [Hae2.out]; exact ht)
          · exact Htn2.out C Hok2.out t ((HR2.out.mem t).1 (List.mem_of_mem_take ht)))
        obtain ⟨b9, o9, hb9⟩ := hrow.at_ k (by rw [List.length_map]; exact hkl)
        have c9 := hrow.cell b9 o9 hb9 k (by rw [List.length_map]; exact hkl)
        rw [List.getElem_map] at c9
        have hbl9 := World.block_lt_of_cell? _ _ c9
        obtain ⟨x, hx⟩ : ∃ v, Hid (y2[k] = v) := ⟨_, Lib.hid rfl⟩
        rw [hx.out] at c9 HRn
        subst hb9
        have Hw := Lib.hid (with9_any r x xa' xc' U HI.out (by omega))
        rw [← hn.out] at Hw
        clear hrow hrl
        go_wp2_with (fail)
        refine Hw.out.mono ?_
        rintro e w9 ⟨⟨oa, oc, rfl, hi9, _⟩, hb9⟩
        have HI9 := Lib.hid hi9
        have Hb9 := Lib.hid (hbr.trans (hb9.mono hbr.size))
        clear hi9 hb9 Hw
        go_wp2_with (fail)
        exact ⟨⟨k + 1, _, oa, oc, _, by omega, by go_num, rfl, Lib.hid rfl, HI9, HRn, Hb9.out⟩, by simp [RowKit.intOf]; omega⟩
      · have hke : k = Y2 := by omega
        have hkI : ¬ (k : Int) < (Y2 : Int) := by omega
        have hre : r = y3 := Hend.out r (by have := HR.out; rwa [hke, List.take_of_length_le (by rw [hY2.out]; exact Nat.le_refl _)] at this)
        have Hs := sameInts8_any xa' ra xc' rc r y3 U HI.out (Hz8.out.grown hbr)
        rw [decide_eq_true hre, ← hn.out, hY3.out] at Hs
        have Hs' := Lib.hid Hs
        have Hb8U := Lib.hid (Hb8.out.trans (hbr.mono Hb8.out.size))
        clear hke Hs hre hbr
        cases E2
        all_goals
          go_wp2_with (fail)
          refine Hs'.out.mono ?_
          rintro e w9 ⟨rfl, hb9⟩
          have Hb9 := Lib.hid (Hb8U.out.trans (hb9.mono Hb8U.out.size))
          clear hb9
          go_wp2_with (fail)
          exact bodyPost_ret (v := .bool true) (by simp [results, Try.results7, go_sem]; try first | rfl | assumption | omega) rfl ⟨rfl, Hb9.out⟩
end Go.Proofs.Ytiopbjgpaidemaa

namespace Go.Proofs.Ytiopbjgpaidemaa
open Go.ChangeShapes Go.WideShapes Go.ChangeAt Go.RowKit

attribute [local go_sem] Oper.semAt_some

/-- What an int may be. -/
def Bd (x : Int) : Prop := -9223372036854775808 ≤ x ∧ x ≤ 9223372036854775807
theorem wf_bd {n : Int} (h : (Go.Lit.int .i64 n).wf = true) : Bd n := by
  unfold Bd
  simp [Go.Lit.wf, IntKind.min, IntKind.max, IntKind.signed, IntKind.bits] at h
  omega
theorem int_cells8 : Try.prog.cellsOf 3 = 1 := by kernel_rfl
theorem ints_cells8 : Try.prog.cellsOf 50 = 1 := by kernel_rfl
theorem intss_cells8 : Try.prog.cellsOf 47 = 1 := by kernel_rfl
theorem intsss_cells8 : Try.prog.cellsOf 39 = 1 := by kernel_rfl
theorem cfg_cells8 : Try.prog.cellsOf 41 = 3 := by kernel_rfl
def szIl (ds : List IltD) : Nat := (ds.map (fun d => d.l.length)).sum
theorem szIl_is (r : IrD) : r.ds.length + szIl r.ds = szJ r.p := by
  unfold szJ szIl IrD.p
  rw [List.length_map, List.map_map]
  rfl

set_option maxRecDepth 100000 in
theorem open_intl2 {H : Type} {enc : TypeId × Value → H} {W : World} {base : Nat} {sp : Nat → Bool} {hd : Bool} (fuel : Nat) (cs : List Value) (x : DataW H × List MemPlace) (h : DataW.trod enc Try.prog W base sp hd fuel 50 cs = some x) :
    ∃ d : IltD, cs = [.slice d.a d.l.length d.c] ∧ Ints W d.a d.c d.l ∧ (∀ n ∈ d.l, Bd n) ∧ d.l.length + 1 ≤ Rows.uptoBulk x.1 := by
  rcases DataW.trod_slice Try.underlying50 h with ⟨e3, _⟩ | ⟨a, len, cap, elems, rest, n', hn, e3, x3, hb, hle, hm, hel, hcell, _, _⟩
  · exact ⟨⟨[], none, 0⟩, by rw [e3]; rfl, Vs.nil W, fun n h => (by cases h), by simpa using bulk_pos x.1⟩
  · have hmax : maxLen ≤ 9223372036854775807 := by decide
    have hbk : len + 1 ≤ Rows.uptoBulk x.1 := by
      rw [x3]
      simp only [Rows.uptoBulk]
      have h1 := bulkAll_sum (elems.map (·.1))
      have h2 := sum_le8 (fun _ => 1) Rows.uptoBulk (elems.map (·.1)) (elems.map (·.1)) rfl (fun i h1 h2 => bulk_pos _)
      rw [sum_ones, List.length_map, hel] at h2
      omega
    have each : ∀ i, i < len → ∃ s : Int, W.cell? ((a.add (i * 1)).add 0) = some (.int .i64 s) ∧ Bd s := by
      intro i hi
      have hc := hcell i hi
      rw [List.getElem?_eq_getElem (by omega), int_cells8, Option.bind_eq_some_iff] at hc
      obtain ⟨cs', hcs, ht⟩ := hc
      obtain ⟨s, e0, _, ws0⟩ := DataW.trod_int Try.underlying3 ht
      have ws := wf_bd ws0
      subst e0
      exact ⟨s, (World.cells?_some hcs).2.2 0 (by omega), ws⟩
    by_cases h0 : len = 0
    · subst h0
      exact ⟨⟨[], some a, cap⟩, by rw [e3]; rfl, ⟨by simp, (show cap ≤ 9223372036854775807 by omega), fun e => (by cases e), fun i h => by simp at h, fun b off e i h => by simp at h⟩, fun n h => (by cases h), by simpa using bulk_pos x.1⟩
    · obtain ⟨b, off, spot⟩ := a
      have hspot : spot = none := by
        obtain ⟨s, hc, _⟩ := each 0 (by omega)
        simpa [Addr.add] using World.cell?_spot hc
      subst hspot
      have each2 : ∀ i, i < len → ∃ s : Int, W.cell? ⟨b, off + i, none⟩ = some (.int .i64 s) ∧ Bd s := by
        intro i hi
        obtain ⟨s, hc, hz⟩ := each i hi
        rw [add_plain, add_plain, Nat.mul_one, Nat.add_zero] at hc
        exact ⟨s, hc, hz⟩
      obtain ⟨l, hl1, hl2⟩ := row_of len each2
      refine ⟨⟨l, some ⟨b, off, none⟩, cap⟩, by rw [e3, hl1], ⟨by rw [List.length_map]; exact (show l.length ≤ cap by omega), (show cap ≤ 9223372036854775807 by omega), fun e => (by cases e), fun i _ => ⟨b, off, rfl⟩, fun b' off' e i hi => ?_⟩, fun n hn => ?_, by show l.length + 1 ≤ _; omega⟩
      · cases e
        rw [List.getElem_map]
        exact (hl2 i (by rwa [List.length_map] at hi)).1
      · obtain ⟨i, hi, rfl⟩ := List.getElem_of_mem hn
        exact (hl2 i hi).2

set_option maxRecDepth 100000 in
theorem open_intll2 {H : Type} {enc : TypeId × Value → H} {W : World} {base : Nat} {sp : Nat → Bool} {hd : Bool} (fuel : Nat) (cs : List Value) (x : DataW H × List MemPlace) (h : DataW.trod enc Try.prog W base sp hd fuel 47 cs = some x) :
    ∃ (ds : List IltD) (a : Option Addr) (c : Nat), cs = [.slice a ds.length c] ∧ AltsI W a c ds ∧ (∀ d ∈ ds, ∀ n ∈ d.l, Bd n) ∧ ds.length + szIl ds + 1 ≤ Rows.uptoBulk x.1 := by
  rcases DataW.trod_slice Try.underlying47 h with ⟨e3, _⟩ | ⟨a, len, cap, elems, rest, n', hn, e3, x3, hb, hle, hm, hel, hcell, _, _⟩
  · exact ⟨[], none, 0, by rw [e3]; rfl, ⟨Vs.nil W, fun d h => by cases h⟩, fun d h => (by cases h), by simpa [szIl] using bulk_pos x.1⟩
  · have hmax : maxLen ≤ 9223372036854775807 := by decide
    have each : ∀ i (hi : i < len), ∃ d : IltD, W.cell? ((a.add (i * 1)).add 0) = some d.v ∧ Ints W d.a d.c d.l ∧ (∀ n ∈ d.l, Bd n) ∧ d.l.length + 1 ≤ Rows.uptoBulk (elems[i]'(by omega)).1 := by
      intro i hi
      have hc := hcell i hi
      rw [List.getElem?_eq_getElem (by omega), ints_cells8, Option.bind_eq_some_iff] at hc
      obtain ⟨cs', hcs, ht⟩ := hc
      obtain ⟨d, rfl, hN, hz, hk⟩ := open_intl2 n' cs' _ ht
      exact ⟨d, (World.cells?_some hcs).2.2 0 (by omega), hN, hz, hk⟩
    by_cases h0 : len = 0
    · subst h0
      exact ⟨[], some a, cap, by rw [e3]; rfl, ⟨⟨by simp, by omega, fun e => (by cases e), fun i h => by simp at h, fun b off e i h => by simp at h⟩, fun d hd => by cases hd⟩, fun d h => (by cases h), by simpa [szIl] using bulk_pos x.1⟩
    · obtain ⟨b, off, spot⟩ := a
      have hspot : spot = none := by
        obtain ⟨s, hc, _⟩ := each 0 (by omega)
        simpa [Addr.add] using World.cell?_spot hc
      subst hspot
      obtain ⟨l, hl1, hl2, hl3⟩ := row_of2 (P := fun i (d : IltD) => W.cell? ⟨b, off + i, none⟩ = some d.v ∧ Ints W d.a d.c d.l ∧ ∀ n ∈ d.l, Bd n) (f := fun d : IltD => d.l.length + 1) (g := Rows.uptoBulk) (elems.map (·.1)) len (by rw [List.length_map, hel]) (fun i hi => by
        obtain ⟨d, hc, hN, hz, hk⟩ := each i (by rw [List.length_map] at hi; omega)
        rw [add_plain, add_plain, Nat.mul_one, Nat.add_zero] at hc
        exact ⟨d, ⟨hc, hN, hz⟩, by rw [List.getElem_map]; exact hk⟩)
      refine ⟨l, some ⟨b, off, none⟩, cap, by rw [e3, hl1], ⟨⟨by rw [List.length_map]; omega, by omega, fun e => (by cases e), fun i _ => ⟨b, off, rfl⟩, fun b' off' e i hi => ?_⟩, fun d hd => ?_⟩, fun d hd => ?_, ?_⟩
      · cases e
        rw [List.getElem_map]
        exact (hl2 i (by rwa [List.length_map] at hi)).1
      · obtain ⟨i, hi, rfl⟩ := List.getElem_of_mem hd
        exact (hl2 i hi).2.1
      · obtain ⟨i, hi, rfl⟩ := List.getElem_of_mem hd
        exact (hl2 i hi).2.2
      · rw [x3]
        simp only [Rows.uptoBulk]
        rw [bulkAll_sum (elems.map (·.1))]
        have h4 : (l.map (fun d : IltD => d.l.length + 1)).sum = l.length + szIl l := by
          clear hl1 hl2 hl3
          induction l with
          | nil => simp [szIl]
          | cons d l ih =>
            have e : szIl (d :: l) = d.l.length + szIl l := by simp [szIl]
            rw [List.map_cons, List.sum_cons, ih, e, List.length_cons]
            omega
        omega

set_option maxRecDepth 100000 in
theorem open_intlll2 {H : Type} {enc : TypeId × Value → H} {W : World} {base : Nat} {sp : Nat → Bool} {hd : Bool} (fuel : Nat) (cs : List Value) (x : DataW H × List MemPlace) (h : DataW.trod enc Try.prog W base sp hd fuel 39 cs = some x) :
    ∃ (al : List IrD) (a : Option Addr) (c : Nat), cs = [.slice a al.length c] ∧ Vs W a c (al.map IrD.v) ∧ (∀ r ∈ al, AltsI W r.a r.c r.ds) ∧ (∀ r ∈ al, ∀ d ∈ r.ds, ∀ n ∈ d.l, Bd n) ∧ al.length + szC (al.map IrD.p) + 1 ≤ Rows.uptoBulk x.1 := by
  rcases DataW.trod_slice Try.underlying39 h with ⟨e3, _⟩ | ⟨a, len, cap, elems, rest, n', hn, e3, x3, hb, hle, hm, hel, hcell, _, _⟩
  · exact ⟨[], none, 0, by rw [e3]; rfl, Vs.nil W, fun d h => (by cases h), fun d h => (by cases h), by simpa [szC] using bulk_pos x.1⟩
  · have hmax : maxLen ≤ 9223372036854775807 := by decide
    have each : ∀ i (hi : i < len), ∃ r : IrD, W.cell? ((a.add (i * 1)).add 0) = some r.v ∧ AltsI W r.a r.c r.ds ∧ (∀ d ∈ r.ds, ∀ n ∈ d.l, Bd n) ∧ szJ r.p + 1 ≤ Rows.uptoBulk (elems[i]'(by omega)).1 := by
      intro i hi
      have hc := hcell i hi
      rw [List.getElem?_eq_getElem (by omega), intss_cells8, Option.bind_eq_some_iff] at hc
      obtain ⟨cs', hcs, ht⟩ := hc
      obtain ⟨ds, ra, rc, rfl, hN, hz, hk⟩ := open_intll2 n' cs' _ ht
      have hk2 := szIl_is ⟨ds, ra, rc⟩
      dsimp only at hk2
      exact ⟨⟨ds, ra, rc⟩, (World.cells?_some hcs).2.2 0 (by omega), hN, hz, by omega⟩
    by_cases h0 : len = 0
    · subst h0
      exact ⟨[], some a, cap, by rw [e3]; rfl, ⟨by simp, by omega, fun e => (by cases e), fun i h => by simp at h, fun b off e i h => by simp at h⟩, fun d h => (by cases h), fun d h => (by cases h), by simpa [szC] using bulk_pos x.1⟩
    · obtain ⟨b, off, spot⟩ := a
      have hspot : spot = none := by
        obtain ⟨s, hc, _⟩ := each 0 (by omega)
        simpa [Addr.add] using World.cell?_spot hc
      subst hspot
      obtain ⟨l, hl1, hl2, hl3⟩ := row_of2 (P := fun i (r : IrD) => W.cell? ⟨b, off + i, none⟩ = some r.v ∧ AltsI W r.a r.c r.ds ∧ ∀ d ∈ r.ds, ∀ n ∈ d.l, Bd n) (f := fun r : IrD => szJ r.p + 1) (g := Rows.uptoBulk) (elems.map (·.1)) len (by rw [List.length_map, hel]) (fun i hi => by
        obtain ⟨d, hc, hN, hz, hk⟩ := each i (by rw [List.length_map] at hi; omega)
        rw [add_plain, add_plain, Nat.mul_one, Nat.add_zero] at hc
        exact ⟨d, ⟨hc, hN, hz⟩, by rw [List.getElem_map]; exact hk⟩)
      refine ⟨l, some ⟨b, off, none⟩, cap, by rw [e3, hl1], ⟨by rw [List.length_map]; omega, by omega, fun e => (by cases e), fun i _ => ⟨b, off, rfl⟩, fun b' off' e i hi => ?_⟩, fun d hd => ?_, fun d hd => ?_, ?_⟩
      · cases e
        rw [List.getElem_map]
        exact (hl2 i (by rwa [List.length_map] at hi)).1
      · obtain ⟨i, hi, rfl⟩ := List.getElem_of_mem hd
        exact (hl2 i hi).2.1
      · obtain ⟨i, hi, rfl⟩ := List.getElem_of_mem hd
        exact (hl2 i hi).2.2
      · rw [x3]
        simp only [Rows.uptoBulk]
        rw [bulkAll_sum (elems.map (·.1))]
        have h4 : (l.map (fun r : IrD => szJ r.p + 1)).sum = l.length + szC (l.map IrD.p) := by
          clear hl1 hl2 hl3
          induction l with
          | nil => simp [szC]
          | cons d l ih =>
            have e : szC ((d :: l).map IrD.p) = szJ d.p + szC (l.map IrD.p) := by simp [szC, szJ]
            rw [List.map_cons, List.sum_cons, ih, e, List.length_cons]
            omega
        omega

set_option maxRecDepth 100000 in
theorem open_cfg2 {H : Type} {enc : TypeId × Value → H} {W : World} {v : Value} {d : DataW H} {ps : List MemPlace} (hok : Value.okWide Try.prog W .any 0 41 v) (h : DataW.Trod enc Try.prog W 0 (fun _ => true) true 41 v d ps) :
    ∃ c : CfD, v = c.v ∧ CfAt W c ∧ (∀ t ∈ c.toks, t.size ≤ maxLen) ∧ (∀ t ∈ c.names, t.size ≤ maxLen) ∧ (∀ r ∈ c.alts, ∀ a ∈ r.ds, ∀ x ∈ a.l, Bd x) ∧ c.toks.length + c.names.length + szC (c.alts.map IrD.p) ≤ Rows.uptoBulk d := by
  obtain ⟨cs, rfl, _⟩ := okWide_struct Try.underlying41 hok
  obtain ⟨fuel, hf⟩ := h
  obtain ⟨xs, n, rfl, e9, hl, hlen, hf⟩ := DataW.trod_struct Try.underlying41 hf
  rw [cfg_cells8] at hl
  obtain ⟨v0, v1, v2, hv⟩ : ∃ v0 v1 v2, cs.toList = [v0, v1, v2] := by
    match hc : cs.toList, (show cs.toList.length = 3 from hl) with
    | [v0, v1, v2], _ => exact ⟨v0, v1, v2, rfl⟩
  obtain ⟨y0, y1, y2, rfl⟩ : ∃ y0 y1 y2, xs = [y0, y1, y2] := by
    match xs, hlen with
    | [y0, y1, y2], _ => exact ⟨y0, y1, y2, rfl⟩
  have h0 := hf 0 _ rfl
  have h1 := hf 1 _ rfl
  have h2 := hf 2 _ rfl
  rw [show (Value.agg cs).cells.toList = [v0, v1, v2] from hv] at h0 h1 h2
  simp only [strs_cells, intsss_cells8, List.drop_zero, List.drop_succ_cons, List.take_succ_cons, List.take_zero, List.getElem?_cons_zero, List.getElem?_cons_succ] at h0 h1 h2
  obtain ⟨dt, e0, hT, zT, kT⟩ := open_strl2 _ _ _ h0
  injection e0 with e0 _
  subst e0
  obtain ⟨dn, e1, hN, zN, kN⟩ := open_strl2 _ _ _ h1
  injection e1 with e1 _
  subst e1
  obtain ⟨al, aa, ac, e2, hR, hI, hB, hk⟩ := open_intlll2 _ _ _ h2
  injection e2 with e2 _
  subst e2
  have e9 := (Prod.mk.inj e9).1
  refine ⟨⟨dt.l, dt.a, dt.c, dn.l, dn.a, dn.c, al, aa, ac⟩, ?_, ⟨hT, hN, hR, hI⟩, zT, zN, hB, ?_⟩
  · cases cs
    simp only at hv
    rw [hv]
  · rw [e9]
    simp only [List.map_cons, List.map_nil, Rows.uptoBulk, Rows.uptoBulkAll]
    omega
end Go.Proofs.Ytiopbjgpaidemaa

namespace Go.Proofs.Ytiopbjgpaidemaa
open Go.ChangeShapes Go.WideShapes Go.ChangeAt Go.RowKit

set_option maxRecDepth 100000 in
theorem open_ints2 {H : Type} {enc : TypeId × Value → H} {W : World} {v : Value} {d : DataW H} {ps : List MemPlace} (hok : Value.okWide Try.prog W .any 0 50 v) (h : DataW.Trod enc Try.prog W 0 (fun _ => true) true 50 v d ps) :
    ∃ (a : Option Addr) (cap : Nat) (l : List Int), v = .slice a l.length cap ∧ Ints W a cap l ∧ (∀ n ∈ l, Bd n) := by
  obtain ⟨a0, len0, cap0, rfl⟩ := okWide_slice Try.underlying50 hok
  obtain ⟨fuel, hf⟩ := h
  obtain ⟨x, e, h1, h2, h3⟩ := open_intl2 fuel _ _ hf
  simp only [Value.cells, List.cons.injEq, and_true] at e
  exact ⟨x.a, x.c, x.l, e, h1, h2⟩
end Go.Proofs.Ytiopbjgpaidemaa

namespace Go.Proofs.Ytiopbjgpaidemaa
open Go.ChangeShapes Go.WideShapes Go.ChangeAt Go.RowKit

set_option maxRecDepth 100000 in
theorem setsSplit_contract (H : Type) (enc : TypeId × Value → H) (W : World) (args : Array Value) (ds gs : List (DataW H)) (before : List MemPlace)
    (hval : ∀ (j : Nat) t v, Try.f7.params[j]? = some t → args[j]? = some v → Value.okWide Try.prog W .any 0 t v)
    (hW : DataW.Whole enc Try.prog Try.f7.params.toList Rows.setsSplitSpec.vars false W args.toList ds gs before) (hk : Rows.uptoSmall H (ds ++ gs) = true) :
    Calls Try.prog 7 args W fun e W' => ∃ v, e = .returned v ∧ Rows.setsSplitSpec.post enc Try.prog Try.f7 false true false false W args v W' := by
  have hW' := hW
  obtain ⟨p, q, hA0, hV, rfl, hfz, hnd⟩ := hW
  have hA : DataW.TrodAll enc Try.prog W 0 (fun _ => true) true Try.f7.params.toList args.toList ds p := hA0
  rw [Try.params7] at hA hval
  obtain ⟨v0, v1, v2, d0, d1, d2, p0, p1, p2, rfl, rfl, rfl, h0, h1, h2⟩ := trodAll_three hA
  have hb : Rows.uptoBulkAll ([d0, d1, d2] ++ gs) ≤ 1048576 := of_decide_eq_true hk
  simp only [List.cons_append, List.nil_append, Rows.uptoBulkAll] at hb
  obtain ⟨c, rfl, hc, z1, z2, z3, hz⟩ := open_cfg2 (hval 0 41 v0 rfl rfl) h0
  obtain ⟨a1, c1, l1, rfl, hl1, hr1⟩ := open_ints2 (hval 1 50 v1 rfl rfl) h1
  obtain ⟨a2, c2, l2, rfl, hl2, hr2⟩ := open_ints2 (hval 2 50 v2 rfl rfl) h2
  refine (lawSplit_any c l1 l2 a1 a2 c1 c2 W hc z1 z2 z3 (by omega) hl1 hl2 hr1 hr2).mono fun e W' ⟨he, hw⟩ => ?_
  subst he
  exact ⟨_, rfl, law_post hW' rfl rfl (by kernel_rfl) (by rw [Try.params7]; intro t ht; simp at ht; rcases ht with rfl | rfl | rfl <;> exact ⟨by kernel_rfl, of_decide_eq_true (by kernel_rfl)⟩) hw⟩

set_option maxRecDepth 100000 in
theorem setsSplit_lifted (os : Os) (started : os.Started) (H : Type) (enc : TypeId × Value → H) (F : Stop.Interp) :
    ReturnsInHanded {} Try.checked os 7 .any ((Rows.OpenSpec.upto Rows.setsSplitSpec).pre6 enc Try.prog Try.f7 Rows.setsSplitUptoRow.domain false) (((Rows.OpenSpec.upto Rows.setsSplitSpec).at F).post enc Try.prog Try.f7 false true false false) := by
  refine returnsInHanded_of_cond (C := Try.checked) (s := Rows.OpenSpec.upto Rows.setsSplitSpec) (k := Rows.uptoSmall) rfl Try.own started (by kernel_rfl) Try.func7
    (OpenSpec.witness (enc := enc) (C := Try.checked) (s := Rows.OpenSpec.upto Rows.setsSplitSpec) (k := Rows.uptoSmall) rfl false ⟨#[], #[.agg #[.slice none 0 0, .slice none 0 0, .slice none 0 0], .slice none 0 0, .slice none 0 0], []⟩ 8 (by kernel_rfl) (by kernel_rfl) (by kernel_rfl)
      (x := ([.agg [.nil, .nil, .nil], .nil, .nil], [], [])) (by kernel_rfl) rfl (by kernel_rfl)) ?_
  intro W base args ds gs before hval hW _ hk _
  exact setsSplit_contract H enc W args ds gs before hval hW hk

theorem setsSplit_holds : Rows.SetsSplitUptoSaid :=
  OpenClaim.holds_of_cond 7 Try.f7 rfl rfl rfl rfl rfl rfl rfl ⟨rfl, rfl, rfl, rfl, rfl⟩ rfl rfl rfl rfl rfl (by kernel_rfl) Try.func7 (by kernel_rfl)
    (of_decide_eq_true (by kernel_rfl)) (by unfold Func.isWrapper; first | (rw [if_pos (by decide +kernel)]; kernel_rfl) | (rw [if_neg (by decide +kernel)]; exact ⟨rfl, rfl⟩))
    (fun os started H enc _ F => setsSplit_lifted os started H enc F)
end Go.Proofs.Ytiopbjgpaidemaa

