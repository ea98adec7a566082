/- The row TreeMade in its second form: for every grammar by numbers and all steps whose reading is of bulk at most 1048576: what Grow makes is a derivation of its own tokens, by just these steps, and these tokens are a sentence: the law answers true and changes nothing that was there. (Made by gentp2.py.) -/
/- Texts joined: Tuf PTm. -/
import Derived.Test.YthogiakfbgehnaaREAu
set_option linter.unusedVariables false
set_option linter.unusedSimpArgs false
namespace Go.Proofs.Ythogiakfbgehnaa
open Go.RowKit Go.Maps

attribute [local go_sem] Oper.semAt_some

theorem good_lt {d : CfD} {T : Int} (hrg : ∀ r ∈ d.alts, ∀ a ∈ r.ds, ∀ x ∈ a.l, x < T) : ∀ {f : TrF} {ks : List Int}, goodW d f ks → (∀ k ∈ ks, k < T) → ∀ x ∈ f.yt, x < T
  | .nil, ks, _, _, x, hx => by cases hx
  | .cons h kids rest, ks, hg, hk, x, hx => by
    obtain ⟨ks', rfl, h2, h3⟩ := goodW_cons hg
    have hyt : (TrF.cons h kids rest).yt = (if 0 ≤ h.k then [h.k] else kids.yt) ++ rest.yt := rfl
    rw [hyt] at hx
    rcases List.mem_append.1 hx with hx | hx
    · rcases h2 with ⟨h0, _, _⟩ | ⟨h0, _, a, ha, hkg⟩
      · rw [if_pos h0, List.mem_singleton] at hx
        subst hx
        exact hk _ (by simp)
      · rw [if_neg (by omega)] at hx
        obtain ⟨ru, hru, hm⟩ := altD_mem ha
        exact good_lt hrg hkg (fun k hk => hrg ru hru a hm k hk) x hx
    · exact good_lt hrg h3 (fun k hk2 => hk k (List.mem_cons_of_mem _ hk2)) x hx
theorem may_lt {d : CfD} (h : MayG d.toks d.names (d.alts.map IrD.p)) : ∀ r ∈ d.alts, ∀ a ∈ r.ds, ∀ x ∈ a.l, x < (d.toks.length : Int) := by
  intro r hr a ha x hx
  obtain ⟨i, hi, he⟩ := List.mem_iff_getElem.1 hr
  refine (h.ok i a.l ?_ x hx).2
  rw [List.getD_eq_getElem?_getD, List.getElem?_map, List.getElem?_eq_getElem hi, he]
  exact List.mem_map.2 ⟨a, ha, rfl⟩
/-- What Grow makes is a derivation of its tokens, by just these steps; and its tokens are a sentence. -/
theorem made_chk {d : CfD} {st : List Int} {y : Tre} {s a n : Nat} (hm : MayG d.toks d.names (d.alts.map IrD.p)) (h : gwGrow d st = .ok y s a n) : ChkD d ⟨y.k, y.i, y.a⟩ y.l (TrF.cons ⟨y.k, y.i, y.a⟩ y.l .nil).yt ∧ (TrF.cons ⟨y.k, y.i, y.a⟩ y.l .nil).st = st ∧ y.l.size ≤ 20000 ∧ SpL (d.alts.map IrD.p) (TrF.cons ⟨y.k, y.i, y.a⟩ y.l .nil).yt [-1] 0 (TrF.cons ⟨y.k, y.i, y.a⟩ y.l .nil).yt.length := by
  obtain ⟨hg, hse⟩ := grow_t h
  have e : (y.con .nil) = TrF.cons ⟨y.k, y.i, y.a⟩ y.l .nil := rfl
  rw [e] at hg
  have hk : y.k = -1 := by
    obtain ⟨ks', h1, _⟩ := goodW_cons hg.gd
    injection h1 with h1 _
    exact h1.symm
  have hla := hg.yt
  rw [Nat.sub_zero] at hla
  refine ⟨⟨hk, ⟨hg.gd, good_lt (may_lt hm) hg.gd (fun k hk => by rw [List.mem_singleton.1 hk]; omega)⟩, rfl, by rw [hg.ya, hla]⟩, ?_, ?_, ?_⟩
  · rw [hg.st, hse, Nat.sub_zero, List.drop_zero, List.take_of_length_le (Nat.le_refl _)]
  · have h9 := hg.sz
    simp only [TrF.size] at h9
    omega
  · have h9 := good_spl (d := d) (al := d.alts.map IrD.p) rfl (toks := (TrF.cons ⟨y.k, y.i, y.a⟩ y.l .nil).yt) (a := 0) hg.gd (fun i _ => by rw [Nat.zero_add])
    rwa [Nat.zero_add] at h9
set_option maxRecDepth 100000 in
set_option maxHeartbeats 16000000 in
theorem lawMade13_any (d : CfD) (sa : Option Addr) (sc : Nat) (st : List Int) (w : World) (hd : CfAt w d) (h1 : ∀ t ∈ d.toks, t.size ≤ maxLen) (h2 : ∀ t ∈ d.names, t.size ≤ maxLen) (h3 : ∀ r ∈ d.alts, ∀ a ∈ r.ds, ∀ x ∈ a.l, -9223372036854775808 ≤ x ∧ x ≤ 9223372036854775807)
    (hs : d.toks.length + d.names.length + szC (d.alts.map IrD.p) ≤ 1000000000000) (hst : Ints w sa sc st) :
    Calls Try.prog 12 #[d.v, .slice sa st.length sc] w fun e w' => e = .returned (.bool true) ∧ Below w.heap.size w w' := by
  have hsm : st.length ≤ sc ∧ sc ≤ 9223372036854775807 := ⟨by have := hst.le; rwa [List.length_map] at this, hst.max⟩
  have Hst := Lib.hid hst
  have Hd := Lib.hid hd
  have HF := Lib.hid (fun W (hb : Below w.heap.size w W) => refFewM_any 60 (by omega) d W (hd.grown hb) hs)
  have HV := Lib.hid (fun W (hb : Below w.heap.size w W) (hf : d.toks.length + d.names.length + szC (d.alts.map IrD.p) ≤ 60) => refValid_any d W (hd.grown hb) ⟨by omega, h1, h2⟩ h3)
  have HGr := Lib.hid (fun V (hV : Below w.heap.size w V) => grow_law d sa sc st V (hd.grown hV) h3 (hst.grown hV))
  have Hfw : Hid (d.toks.length + d.names.length + szC (d.alts.map IrD.p) ≤ 60 → validE d.p = 0 → few10 d = true) := Lib.hid (fun ha hb => by unfold few10; rw [decide_eq_true (by omega), decide_eq_true hb]; rfl)
  have H3 := Lib.hid h3
  obtain ⟨E, hE⟩ : ∃ q, Hid (validE d.p = q) := ⟨_, Lib.hid rfl⟩
  rw [hE.out] at HV Hfw
  obtain ⟨Z, hZ⟩ : ∃ q, Hid (d.toks.length + d.names.length + szC (d.alts.map IrD.p) = q) := ⟨_, Lib.hid rfl⟩
  rw [hZ.out] at HF HV Hfw
  obtain ⟨xta, hxta⟩ : ∃ q, Hid (d.ta = q) := ⟨_, Lib.hid rfl⟩
  obtain ⟨xna, hxna⟩ : ∃ q, Hid (d.na = q) := ⟨_, Lib.hid rfl⟩
  obtain ⟨xaa, hxaa⟩ : ∃ q, Hid (d.aa = q) := ⟨_, Lib.hid rfl⟩
  obtain ⟨xtc, hxtc⟩ : ∃ q, Hid (d.tc = q) := ⟨_, Lib.hid rfl⟩
  obtain ⟨xnc, hxnc⟩ : ∃ q, Hid (d.nc = q) := ⟨_, Lib.hid rfl⟩
  obtain ⟨xac, hxac⟩ : ∃ q, Hid (d.ac = q) := ⟨_, Lib.hid rfl⟩
  obtain ⟨T, HT⟩ : ∃ q, Hid (d.toks.length = q) := ⟨_, Lib.hid rfl⟩
  obtain ⟨N, HN⟩ : ∃ q, Hid (d.names.length = q) := ⟨_, Lib.hid rfl⟩
  obtain ⟨L, HL⟩ : ∃ q, Hid (d.alts.length = q) := ⟨_, Lib.hid rfl⟩
  have hdv : d.v = .agg #[.slice xta T xtc, .slice xna N xnc, .slice xaa L xac] := by unfold CfD.v; rw [hxta.out, hxna.out, hxaa.out, hxtc.out, hxnc.out, hxac.out, HT.out, HN.out, HL.out]
  have Hdv := Lib.hid hdv
  rw [hdv] at HF HV HGr ⊢
  obtain ⟨SL, HSL⟩ : ∃ q, Hid (st.length = q) := ⟨_, Lib.hid rfl⟩
  rw [HSL.out] at hsm HGr ⊢
  have HA1 := Lib.hid (Blk.new w 25 #[.slice xta T xtc, .slice xna N xnc, .slice xaa L xac])
  have hb1 : Below w.heap.size w (w.alloc (.cells #[.slice xta T xtc, .slice xna N xnc, .slice xaa L xac] 25)) := (Below.refl _ w).alloc (Nat.le_refl _) _
  have Hb1 := Lib.hid hb1
  clear hb1 hd h1 h2 h3 hs hst hdv hxta hxna hxaa hxtc hxnc hxac
  have HF' : Hid (∀ W, Below w.heap.size w W → Calls Try.prog 50 #[.agg #[.slice xta T xtc, .slice xna N xnc, .slice xaa L xac], .int .i64 60] W fun e w' => e = .returned (.bool (decide (Z ≤ 60))) ∧ Below W.heap.size W w') := HF
  go_enter Try.func12, Try.ntmps12
  go_wp2_with (fail)
  obtain ⟨bx, hbx⟩ : ∃ q, Hid (w.heap.size = q) := ⟨_, Lib.hid rfl⟩
  rw [hbx.out] at HA1 ⊢
  generalize hV : World.alloc w _ = V1 at HA1 Hb1 ⊢
  clear hV
  refine (live13_any V1).mono ?_
  rintro e w2 ⟨rfl, hb⟩
  have HA2 := Lib.hid (HA1.out.below hb HA1.out.lt)
  have Hb2 := Lib.hid (Hb1.out.trans (hb.mono Hb1.out.size))
  clear hb HF
  have x0 := HA2.out.cell 0
  have x1 := HA2.out.cell 1
  have x2 := HA2.out.cell 2
  have xl := HA2.out.lt
  simp only [List.getElem?_cons_zero, List.getElem?_cons_succ] at x0 x1 x2
  go_wp2_with (fail)
  refine (HF'.out w2 Hb2.out).mono ?_
  rintro e w3 ⟨rfl, hb⟩
  have HA3 := Lib.hid (HA2.out.below hb HA2.out.lt)
  have Hb3 := Lib.hid (Hb2.out.trans (hb.mono Hb2.out.size))
  clear hb x0 x1 x2 xl HF'
  by_cases hz : Z ≤ 60
  case neg =>
    rw [decide_eq_false hz]
    go_wp2_with (fail)
    exact bodyPost_ret (v := .bool true) (by simp [results, Try.results12, go_sem]; try first | rfl | assumption | omega) rfl ⟨rfl, Hb3.out⟩
  rw [decide_eq_true hz]
  have HV' := Lib.hid (fun W hb => HV.out W hb hz)
  have Hfw2 := Lib.hid (Hfw.out hz)
  clear HV Hfw hz
  have x0 := HA3.out.cell 0
  have x1 := HA3.out.cell 1
  have x2 := HA3.out.cell 2
  have xl := HA3.out.lt
  simp only [List.getElem?_cons_zero, List.getElem?_cons_succ] at x0 x1 x2
  go_wp2_with (fail)
  refine (HV'.out w3 Hb3.out).mono ?_
  rintro e w4 ⟨rfl, hb⟩
  have HA4 := Lib.hid (HA3.out.below hb HA3.out.lt)
  have Hb4 := Lib.hid (Hb3.out.trans (hb.mono Hb3.out.size))
  clear hb x0 x1 x2 xl HV'
  by_cases he : E = 0
  case neg =>
    have heb : (E != 0) = true := by simp [he]
    go_wp2_with (fail)
    exact bodyPost_ret (v := .bool true) (by simp [results, Try.results12, go_sem]; try first | rfl | assumption | omega) rfl ⟨rfl, Hb4.out⟩
  have Hw := Lib.hid (Hfw2.out he)
  have heb : (E != 0) = false := by simp [he]
  clear he Hfw2
  by_cases hS60 : 60 < SL
  · have hSI : (60 : Int) < (SL : Int) := by omega
    go_wp2_with (fail)
    exact bodyPost_ret (v := .bool true) (by simp [results, Try.results12, go_sem]; try first | rfl | assumption | omega) rfl ⟨rfl, Hb4.out⟩
  have hSI : ¬ (60 : Int) < (SL : Int) := by omega
  have hmay := few10_may Hw.out
  have hdl9 : d.alts.length ≤ 1000 := by
    have h9 := Hw.out
    unfold few10 at h9
    rw [Bool.and_eq_true, decide_eq_true_eq, decide_eq_true_eq] at h9
    have h8 := hmay.len
    rw [List.length_map] at h8
    omega
  have Hmc := Lib.hid (fun (y : Tre) (s a n : Nat) (h : gwGrow d st = .ok y s a n) => made_chk hmay h)
  have HdL : Hid (d.alts.length ≤ 1000) := Lib.hid hdl9
  clear hmay hdl9
  have x0 := HA4.out.cell 0
  have x1 := HA4.out.cell 1
  have x2 := HA4.out.cell 2
  have xl := HA4.out.lt
  simp only [List.getElem?_cons_zero, List.getElem?_cons_succ] at x0 x1 x2
  go_wp2_with (fail)
  refine (HGr.out w4 Hb4.out).mono ?_
  rintro e w5 ⟨hb, hq⟩
  have HA5 := Lib.hid (HA4.out.below hb HA4.out.lt)
  have Hb5 := Lib.hid (Hb4.out.trans (hb.mono Hb4.out.size))
  clear hb x0 x1 x2 xl HGr
  rcases hq with ⟨s, x2, hx2, -, rfl⟩ | ⟨y, s9, a8, n8, gb, gd, hgr, rfl, hyt⟩
  · have hxn : (x2 != 0) = true := by rw [bne_iff_ne]; exact hx2
    have hb : Below w5.heap.size w5 (w5.alloc (.cells #[.int .i64 0, .int .i64 0, .int .i64 0, .slice none 0 0] 51)) := (Below.refl _ _).alloc (Nat.le_refl _) _
    have HX6 := Lib.hid (Blk.new w5 51 #[.int .i64 0, .int .i64 0, .int .i64 0, .slice none 0 0])
    have HA6 := Lib.hid (HA5.out.below hb HA5.out.lt)
    have Hb6 := Lib.hid (Hb5.out.trans (hb.mono Hb5.out.size))
    clear hb
    go_upto_region 5 with fail
    obtain ⟨b2, hb2⟩ : ∃ q, Hid (w5.heap.size = q) := ⟨_, Lib.hid rfl⟩
    have hb2o := hb2.out
    rw [hb2o] at HX6 ⊢
    generalize World.alloc w5 _ = w6 at HA6 HX6 Hb6 ⊢
    clear hb2o
    have m0 := HX6.out.cell 0
    have m1 := HX6.out.cell 1
    have m2 := HX6.out.cell 2
    have m3 := HX6.out.cell 3
    have ml := HX6.out.lt
    simp only [List.getElem?_cons_zero, List.getElem?_cons_succ] at m0 m1 m2 m3
    go_wp2_with (fail)
    exact bodyPost_ret (v := .bool true) (by simp [results, Try.results12, go_sem]; try first | rfl | assumption | omega) rfl ⟨rfl, Hb6.out⟩
  · obtain ⟨hck, hst2, hysz, hspl⟩ := Hmc.out y s9 a8 n8 hgr
    obtain ⟨yk, yi, yh, yf⟩ := y
    dsimp only at hyt hck hst2 hysz hspl ⊢
    have htl := hyt.imp (Q := fun _ => True) (fun _ _ _ => trivial)
    have htm := htl.le
    have htx := htl.max
    have hb : Below w5.heap.size w5 (w5.alloc (.cells #[.int .i64 yk, .int .i64 yi, .int .i64 yh, .slice gb yf.len gd] 51)) := (Below.refl _ _).alloc (Nat.le_refl _) _
    have hHY := Blk.new w5 51 #[.int .i64 yk, .int .i64 yi, .int .i64 yh, .slice gb yf.len gd]
    have Hyt5 := Lib.hid htl
    have Hck := Lib.hid hck
    have Hst2 := Lib.hid hst2
    have Hspl := Lib.hid hspl
    obtain ⟨YL, hYL⟩ : ∃ q, Hid (yf.len = q) := ⟨_, Lib.hid rfl⟩
    obtain ⟨YN, hYN⟩ : ∃ q, Hid ((TrF.cons ⟨yk, yi, yh⟩ yf .nil).yt.length = q) := ⟨_, Lib.hid rfl⟩
    rw [hYL.out] at hb hHY htm ⊢
    have HA6 := Lib.hid (HA5.out.below hb HA5.out.lt)
    have Hb6 := Lib.hid (Hb5.out.trans (hb.mono Hb5.out.size))
    have Hq6 := Lib.hid hb
    have HY6 := Lib.hid hHY
    clear hb hHY htl hyt hck hst2 hspl Hmc hgr
    obtain ⟨b2, hb2⟩ : ∃ q, Hid (w5.heap.size = q) := ⟨_, Lib.hid rfl⟩
    go_upto_region 7 with fail
    have hb2o := hb2.out
    rw [hb2o] at HY6 ⊢
    generalize World.alloc w5 _ = w6 at HA6 HY6 Hb6 Hq6 ⊢
    clear hb2o
    have hYD := tyield_any ⟨yk, yi, yh⟩ yf gb gd w6 (Hyt5.out.grown Hq6.out) (by omega)
    rw [hYL.out, hYN.out] at hYD
    dsimp only [treV] at hYD
    have HYd := Lib.hid hYD
    clear hYD
    have m0 := HY6.out.cell 0
    have m1 := HY6.out.cell 1
    have m2 := HY6.out.cell 2
    have m3 := HY6.out.cell 3
    have ml := HY6.out.lt
    simp only [List.getElem?_cons_zero, List.getElem?_cons_succ] at m0 m1 m2 m3
    go_wp2_with (fail)
    refine HYd.out.mono ?_
    rintro e7 w7 ⟨ra, rc, rfl, hyo, hb⟩
    have HIn := Lib.hid (OwnKZ.vs hyo)
    have hrm : YN ≤ rc ∧ rc ≤ 9223372036854775807 := ⟨by have h9 := HIn.out.le; rwa [List.length_map, hYN.out] at h9, HIn.out.max⟩
    have HA7 := Lib.hid (HA6.out.below hb HA6.out.lt)
    have HY7 := Lib.hid (HY6.out.below hb HY6.out.lt)
    have Hb7 := Lib.hid (Hb6.out.trans (hb.mono Hb6.out.size))
    have Hq7 := Lib.hid (Hq6.out.trans (hb.mono Hq6.out.size))
    clear hb hyo m0 m1 m2 m3 ml HYd
    have hCk0 := (tcheck_any d ⟨yk, yi, yh⟩ yf gb gd ra rc (TrF.cons ⟨yk, yi, yh⟩ yf .nil).yt w7 (Hd.out.grown Hb7.out) (Hyt5.out.grown Hq7.out) HIn.out (by omega) (good_lo (fun r hr a ha x hx => (H3.out r hr a ha x hx).1) Hck.out.2.1.1 (fun k hk => by rw [List.mem_singleton.1 hk]; decide) true 1)).mono (fun e W (hh : _) => (show e = .returned (.bool true) ∧ Below w7.heap.size w7 W from by
      obtain ⟨b, he, hbc, hbb⟩ := hh
      rw [hbc.2 Hck.out] at he
      exact ⟨he, hbb⟩))
    rw [Hdv.out, hYL.out, hYN.out] at hCk0
    dsimp only [treV] at hCk0
    have HCk := Lib.hid hCk0
    clear hCk0
    have x0 := HA7.out.cell 0
    have x1 := HA7.out.cell 1
    have x2 := HA7.out.cell 2
    have xl := HA7.out.lt
    simp only [List.getElem?_cons_zero, List.getElem?_cons_succ] at x0 x1 x2
    have m0 := HY7.out.cell 0
    have m1 := HY7.out.cell 1
    have m2 := HY7.out.cell 2
    have m3 := HY7.out.cell 3
    have ml := HY7.out.lt
    simp only [List.getElem?_cons_zero, List.getElem?_cons_succ] at m0 m1 m2 m3
    go_wp2_with (fail)
    refine HCk.out.mono ?_
    rintro e8 w8 ⟨rfl, hb⟩
    have HA8 := Lib.hid (HA7.out.below hb HA7.out.lt)
    have HY8 := Lib.hid (HY7.out.below hb HY7.out.lt)
    have Hb8 := Lib.hid (Hb7.out.trans (hb.mono Hb7.out.size))
    have Hq8 := Lib.hid (Hq7.out.trans (hb.mono Hq7.out.size))
    have HIn8 := Lib.hid (HIn.out.grown hb)
    clear hb x0 x1 x2 xl m0 m1 m2 m3 ml HCk HIn
    have hSt0 := tsteps_any ⟨yk, yi, yh⟩ yf gb gd w8 (Hyt5.out.grown Hq8.out) (by omega)
    rw [hYL.out, Hst2.out, HSL.out] at hSt0
    dsimp only [treV] at hSt0
    have HSt := Lib.hid hSt0
    clear hSt0
    have m0 := HY8.out.cell 0
    have m1 := HY8.out.cell 1
    have m2 := HY8.out.cell 2
    have m3 := HY8.out.cell 3
    have ml := HY8.out.lt
    simp only [List.getElem?_cons_zero, List.getElem?_cons_succ] at m0 m1 m2 m3
    go_wp2_with (fail)
    refine HSt.out.mono ?_
    rintro e9 w9 ⟨r2, c2, rfl, hso, hb⟩
    have hIs := OwnKZ.vs hso
    have hcm : SL ≤ c2 ∧ c2 ≤ 9223372036854775807 := ⟨by have h9 := hIs.le; rwa [List.length_map, HSL.out] at h9, hIs.max⟩
    have HA9 := Lib.hid (HA8.out.below hb HA8.out.lt)
    have Hb9 := Lib.hid (Hb8.out.trans (hb.mono Hb8.out.size))
    have HIn9 := Lib.hid (HIn8.out.grown hb)
    have hSi := sameInts8_any r2 sa c2 sc st st w9 hIs (Hst.out.grown Hb9.out)
    rw [HSL.out, decide_eq_true rfl] at hSi
    have HSi := Lib.hid hSi
    clear hb hso hIs hSi m0 m1 m2 m3 ml HSt HIn8
    go_wp2_with (fail)
    refine HSi.out.mono ?_
    rintro e10 w10 ⟨rfl, hb⟩
    have HA10 := Lib.hid (HA9.out.below hb HA9.out.lt)
    have Hb10 := Lib.hid (Hb9.out.trans (hb.mono Hb9.out.size))
    have HIn10 := Lib.hid (HIn9.out.grown hb)
    clear hb HSi HIn9
    by_cases h12 : 12 < YN
    · have h12I : (12 : Int) < (YN : Int) := by omega
      go_wp2_with (fail)
      exact bodyPost_ret (v := .bool true) (by simp [results, Try.results12, go_sem]; try first | rfl | assumption | omega) rfl ⟨rfl, Hb10.out⟩
    · have h12I : ¬ (12 : Int) < (YN : Int) := by omega
      have hb : Below w10.heap.size w10 (w10.alloc (.cells #[.int .i64 (-1)] 3)) := (Below.refl _ _).alloc (Nat.le_refl _) _
      have hI1 := ints_new w10 [-1] 1 rfl (e9_mx 1 (by omega))
      change Ints (w10.alloc (.cells #[.int .i64 (-1)] 3)) _ _ _ at hI1
      have Hb11 := Lib.hid (Hb10.out.trans (hb.mono Hb10.out.size))
      have hDe := derives_any d (some ⟨w10.heap.size, 0, none⟩) 1 [-1] ra rc (TrF.cons ⟨yk, yi, yh⟩ yf .nil).yt (w10.alloc (.cells #[.int .i64 (-1)] 3)) (Hd.out.grown Hb11.out) hI1 (HIn10.out.grown hb) (fun r hr a ha x hx => (H3.out r hr a ha x hx).1) (fun x hx => by rw [List.mem_singleton.1 hx]; decide) HdL.out (by rw [hYN.out]; omega)
      have hDe2 := hDe.mono (fun e W (hh : _) => (show e = .returned (.bool true) ∧ Below (w10.alloc (.cells #[.int .i64 (-1)] 3)).heap.size (w10.alloc (.cells #[.int .i64 (-1)] 3)) W from by
        obtain ⟨b, he, hbb, hbe⟩ := hh
        rw [hbb.2 Hspl.out] at he
        exact ⟨he, hbe⟩))
      rw [Hdv.out, hYN.out] at hDe2
      change Calls Try.prog _ #[.agg #[.slice xta T xtc, .slice xna N xnc, .slice xaa L xac], .slice (some ⟨w10.heap.size, 0, none⟩) 1 1, .slice ra YN rc] _ _ at hDe2
      have HDe := Lib.hid hDe2
      clear hb hI1 hDe hDe2
      have x0 := HA10.out.cell 0
      have x1 := HA10.out.cell 1
      have x2 := HA10.out.cell 2
      have xl := HA10.out.lt
      simp only [List.getElem?_cons_zero, List.getElem?_cons_succ] at x0 x1 x2
      go_wp2_with (fail)
      refine HDe.out.mono ?_
      rintro e11 w11 ⟨rfl, hb⟩
      have HF9 := Lib.hid (Hb11.out.trans (hb.mono Hb11.out.size))
      clear hb HDe x0 x1 x2 xl
      go_wp2_with (fail)
      exact bodyPost_ret (v := .bool true) (by simp [results, Try.results12, go_sem]; try first | rfl | assumption | omega) rfl ⟨rfl, HF9.out⟩
end Go.Proofs.Ythogiakfbgehnaa
namespace Go.Proofs.Ythogiakfbgehnaa
open Go.ChangeShapes Go.WideShapes Go.ChangeAt Go.RowKit

set_option maxRecDepth 100000 in
theorem treeMade_contract (H : Type) (enc : TypeId × Value → H) (W : World) (args : Array Value) (ds gs : List (DataW H)) (before : List MemPlace)
    (hval : ∀ (j : Nat) t v, Try.f12.params[j]? = some t → args[j]? = some v → Value.okWide Try.prog W .any 0 t v)
    (hW : DataW.Whole enc Try.prog Try.f12.params.toList Rows.treeMadeSpec.vars false W args.toList ds gs before) (hk : Rows.uptoSmall H (ds ++ gs) = true) :
    Calls Try.prog 12 args W fun e W' => ∃ v, e = .returned v ∧ Rows.treeMadeSpec.post enc Try.prog Try.f12 false true false false W args v W' := by
  have hW' := hW
  obtain ⟨p, q, hA0, hV, rfl, hfz, hnd⟩ := hW
  have hA : DataW.TrodAll enc Try.prog W 0 (fun _ => true) true Try.f12.params.toList args.toList ds p := hA0
  rw [Try.params12] at hA hval
  obtain ⟨v0, v1, d0, d1, p0, p1, rfl, rfl, rfl, h0, h1⟩ := trodAll_two hA
  have hb : Rows.uptoBulkAll ([d0, d1] ++ gs) ≤ 1048576 := of_decide_eq_true hk
  simp only [List.cons_append, List.nil_append, Rows.uptoBulkAll] at hb
  obtain ⟨c, rfl, hc, z1, z2, z3, hz⟩ := open_cfg2 (hval 0 25 v0 rfl rfl) h0
  obtain ⟨a1, c1, l1, rfl, hl1, hr1⟩ := open_ints2 (hval 1 35 v1 rfl rfl) h1
  refine (lawMade13_any c a1 c1 l1 W hc z1 z2 z3 (by omega) hl1).mono fun e W' ⟨he, hw⟩ => ?_
  subst he
  exact ⟨_, rfl, law_post hW' rfl rfl (by kernel_rfl) (by rw [Try.params12]; intro t ht; simp at ht; rcases ht with rfl | rfl <;> exact ⟨by kernel_rfl, of_decide_eq_true (by kernel_rfl)⟩) hw⟩

set_option maxRecDepth 100000 in
theorem treeMade_lifted (os : Os) (started : os.Started) (H : Type) (enc : TypeId × Value → H) (F : Stop.Interp) :
    ReturnsInHanded {} Try.checked os 12 .any ((Rows.OpenSpec.upto Rows.treeMadeSpec).pre6 enc Try.prog Try.f12 Rows.treeMadeUptoRow.domain false) (((Rows.OpenSpec.upto Rows.treeMadeSpec).at F).post enc Try.prog Try.f12 false true false false) := by
  refine returnsInHanded_of_cond (C := Try.checked) (s := Rows.OpenSpec.upto Rows.treeMadeSpec) (k := Rows.uptoSmall) rfl Try.own started (by kernel_rfl) Try.func12
    (OpenSpec.witness (enc := enc) (C := Try.checked) (s := Rows.OpenSpec.upto Rows.treeMadeSpec) (k := Rows.uptoSmall) rfl false ⟨#[], #[.agg #[.slice none 0 0, .slice none 0 0, .slice none 0 0], .slice none 0 0], []⟩ 8 (by kernel_rfl) (by kernel_rfl) (by kernel_rfl)
      (x := ([.agg [.nil, .nil, .nil], .nil], [], [])) (by kernel_rfl) rfl (by kernel_rfl)) ?_
  intro W base args ds gs before hval hW _ hk _
  exact treeMade_contract H enc W args ds gs before hval hW hk

theorem treeMade_holds : Rows.TreeMadeUptoSaid :=
  OpenClaim.holds_of_cond 12 Try.f12 rfl rfl rfl rfl rfl rfl rfl ⟨rfl, rfl, rfl, rfl, rfl⟩ rfl rfl rfl rfl rfl (by kernel_rfl) Try.func12 (by kernel_rfl)
    (of_decide_eq_true (by kernel_rfl)) (by unfold Func.isWrapper; first | (rw [if_pos (by decide +kernel)]; kernel_rfl) | (rw [if_neg (by decide +kernel)]; exact ⟨rfl, rfl⟩))
    (fun os started H enc _ F => treeMade_lifted os started H enc F)
end Go.Proofs.Ythogiakfbgehnaa
