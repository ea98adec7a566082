/- The row TreeBack: for every grammar by numbers and every tree: if Check tells that it is a derivation of its own tokens, then Grow of its steps is it: the law answers true and changes nothing that was there; no premise beyond the row's own. -/
/- Texts joined: Ttg Tth PTk. -/
import Derived.Test.YthogiakfbgehnaaRCAl
import Derived.Deep.CutRange
set_option linter.unusedVariables false
set_option linter.unusedSimpArgs false
namespace Go.Proofs.Ythogiakfbgehnaa
open Go.RowKit Go.Maps

attribute [local go_sem] Oper.semAt_some

/-- What Grow tells, as what Parse tells. -/
def psOfG : GwR Tre → PsR Tre
  | .bad s x => .bad s x
  | .ok t _ _ _ => .ok t 0 0
theorem grow_tre (d : CfD) (sa : Option Addr) (sc : Nat) (st : List Int) (w : World) (hd : CfAt w d) (hrg : ∀ r ∈ d.alts, ∀ a ∈ r.ds, ∀ x ∈ a.l, -9223372036854775808 ≤ x ∧ x ≤ 9223372036854775807) (hst : Ints w sa sc st) :
    Calls Try.prog 54 #[d.v, .slice sa st.length sc] w (TreQ w (psOfG (gwGrow d st))) := by
  refine (tgrow_any d sa sc st w hd hrg hst).mono ?_
  rintro e W ⟨hb, hq⟩
  refine ⟨hb, ?_⟩
  cases hg : gwGrow d st with
  | bad s x => rw [hg] at hq; exact hq.2
  | ok t s a n => rw [hg] at hq; exact hq
/-- Few of a tree, told for a law. -/
def FewTQ (n : Nat) (m : Int) (w : World) (e : Ending) (w' : World) : Prop := ∃ b, e = .returned (.bool b) ∧ Hid (b = true → (n : Int) ≤ m - 1) ∧ Below w.heap.size w w'
set_option maxRecDepth 100000 in
set_option maxHeartbeats 16000000 in
theorem lawBack13_any (d : CfD) (h : TrH) (kids : TrF) (a : Option Addr) (cap : Nat) (w : World) (hd : CfAt w d) (hrg : ∀ r ∈ d.alts, ∀ a ∈ r.ds, ∀ x ∈ a.l, -9223372036854775808 ≤ x ∧ x ≤ 9223372036854775807) (hI : TrS w (fun _ => True) a cap kids)
    (hlo : ∀ x ∈ (TrF.cons h kids .nil).pre true 1, -9223372036854775808 ≤ x.h.k) :
    Calls Try.prog 11 #[d.v, treV h a kids.len cap] w fun e w' => e = .returned (.bool true) ∧ Below w.heap.size w w' := by
  obtain ⟨hk, hi, ha⟩ := h
  have hlm : kids.len ≤ cap ∧ cap ≤ 9223372036854775807 := ⟨hI.le, hI.max⟩
  have HI := Lib.hid hI
  have HFw := Lib.hid (fun V (hV : Below w.heap.size w V) => refFewA_any 300 d V (hd.grown hV))
  have HFt : Hid (∀ V, Below w.heap.size w V → Calls Try.prog 51 #[treV ⟨hk, hi, ha⟩ a kids.len cap, .int .i64 500] V (FewTQ kids.size 500 V)) := Lib.hid (fun V hV => tfew_any ⟨hk, hi, ha⟩ kids a cap 500 V _ (hI.grown hV) (by omega) (by omega))
  have HGr0 : Hid (∀ V, Below w.heap.size w V → ∀ sa sc, Ints V sa sc (TrF.cons ⟨hk, hi, ha⟩ kids .nil).st → Calls Try.prog 54 #[d.v, .slice sa (TrF.cons ⟨hk, hi, ha⟩ kids .nil).st.length sc] V (TreQ V (psOfG (gwGrow d (TrF.cons ⟨hk, hi, ha⟩ kids .nil).st)))) := Lib.hid (fun V hV sa sc hs => grow_tre d sa sc _ V (hd.grown hV) hrg hs)
  have HCk0 : Hid (kids.size ≤ 499 → ∀ V, Below w.heap.size w V → ∀ ka kc, Ints V ka kc (TrF.cons ⟨hk, hi, ha⟩ kids .nil).yt → Calls Try.prog 52 #[d.v, treV ⟨hk, hi, ha⟩ a kids.len cap, .slice ka (TrF.cons ⟨hk, hi, ha⟩ kids .nil).yt.length kc] V fun e W => ∃ b, e = .returned (.bool b) ∧ (b = true ↔ ChkD d ⟨hk, hi, ha⟩ kids (TrF.cons ⟨hk, hi, ha⟩ kids .nil).yt) ∧ Below V.heap.size V W) := Lib.hid (fun hz V hV ka kc hs => tcheck_any d ⟨hk, hi, ha⟩ kids a cap ka kc _ V (hd.grown hV) (hI.grown hV) hs (by omega) hlo)
  have HYd0 : Hid (kids.size ≤ 499 → ∀ V, Below w.heap.size w V → Calls Try.prog 53 #[treV ⟨hk, hi, ha⟩ a kids.len cap] V fun e W => ∃ ya yc, e = .returned (.slice ya (TrF.cons ⟨hk, hi, ha⟩ kids .nil).yt.length yc) ∧ Ints W ya yc (TrF.cons ⟨hk, hi, ha⟩ kids .nil).yt ∧ Below V.heap.size V W) := Lib.hid (fun hz V hV => (tyield_any ⟨hk, hi, ha⟩ kids a cap V (hI.grown hV) (by omega)).mono (fun e W hh => by obtain ⟨ya, yc, he, ho, hb⟩ := hh; exact ⟨ya, yc, he, OwnKZ.vs ho, hb⟩))
  have HSt0 : Hid (kids.size ≤ 499 → ∀ V, Below w.heap.size w V → Calls Try.prog 55 #[treV ⟨hk, hi, ha⟩ a kids.len cap] V fun e W => ∃ ya yc, e = .returned (.slice ya (TrF.cons ⟨hk, hi, ha⟩ kids .nil).st.length yc) ∧ Ints W ya yc (TrF.cons ⟨hk, hi, ha⟩ kids .nil).st ∧ Below V.heap.size V W) := Lib.hid (fun hz V hV => (tsteps_any ⟨hk, hi, ha⟩ kids a cap V (hI.grown hV) (by omega)).mono (fun e W hh => by obtain ⟨ya, yc, he, ho, hb⟩ := hh; exact ⟨ya, yc, he, OwnKZ.vs ho, hb⟩))
  obtain ⟨xta, hxta⟩ : ∃ q, Hid (d.ta = q) := ⟨_, Lib.hid rfl⟩
  obtain ⟨xna, hxna⟩ : ∃ q, Hid (d.na = q) := ⟨_, Lib.hid rfl⟩
  obtain ⟨xaa, hxaa⟩ : ∃ q, Hid (d.aa = q) := ⟨_, Lib.hid rfl⟩
  obtain ⟨xtc, hxtc⟩ : ∃ q, Hid (d.tc = q) := ⟨_, Lib.hid rfl⟩
  obtain ⟨xnc, hxnc⟩ : ∃ q, Hid (d.nc = q) := ⟨_, Lib.hid rfl⟩
  obtain ⟨xac, hxac⟩ : ∃ q, Hid (d.ac = q) := ⟨_, Lib.hid rfl⟩
  obtain ⟨T, HT⟩ : ∃ q, Hid (d.toks.length = q) := ⟨_, Lib.hid rfl⟩
  obtain ⟨N, HN⟩ : ∃ q, Hid (d.names.length = q) := ⟨_, Lib.hid rfl⟩
  obtain ⟨L, HL⟩ : ∃ q, Hid (d.alts.length = q) := ⟨_, Lib.hid rfl⟩
  have hdv : d.v = .agg #[.slice xta T xtc, .slice xna N xnc, .slice xaa L xac] := by unfold CfD.v; rw [hxta.out, hxna.out, hxaa.out, hxtc.out, hxnc.out, hxac.out, HT.out, HN.out, HL.out]
  obtain ⟨KL, HKL⟩ : ∃ q, Hid (kids.len = q) := ⟨_, Lib.hid rfl⟩
  obtain ⟨YL, HYL⟩ : ∃ q, Hid ((TrF.cons ⟨hk, hi, ha⟩ kids .nil).yt.length = q) := ⟨_, Lib.hid rfl⟩
  obtain ⟨SL, HSL⟩ : ∃ q, Hid ((TrF.cons ⟨hk, hi, ha⟩ kids .nil).st.length = q) := ⟨_, Lib.hid rfl⟩
  rw [HKL.out] at hlm HFt HCk0 HYd0 HSt0 ⊢
  rw [HYL.out] at HCk0 HYd0
  rw [HSL.out] at HSt0 HGr0
  rw [hdv] at HFw HGr0 HCk0 ⊢
  have hb1 : Below w.heap.size w ((w.alloc (.cells #[.slice xta T xtc, .slice xna N xnc, .slice xaa L xac] 25)).alloc (.cells #[.int .i64 hk, .int .i64 hi, .int .i64 ha, .slice a KL cap] 51)) := ((Below.refl _ w).alloc (Nat.le_refl _) _).alloc (by simp) _
  have hA1 := (Blk.new w 25 #[.slice xta T xtc, .slice xna N xnc, .slice xaa L xac]).alloc (.cells #[.int .i64 hk, .int .i64 hi, .int .i64 ha, .slice a KL cap] 51)
  have hT1 := Blk.new (w.alloc (.cells #[.slice xta T xtc, .slice xna N xnc, .slice xaa L xac] 25)) 51 #[.int .i64 hk, .int .i64 hi, .int .i64 ha, .slice a KL cap]
  rw [World.size_alloc] at hT1
  have HA1 := Lib.hid hA1
  have HT1 := Lib.hid hT1
  have Hb1 := Lib.hid hb1
  clear hb1 hA1 hT1 hd hrg hI hlo hdv hxta hxna hxaa hxtc hxnc hxac
  go_enter Try.func11, Try.ntmps11
  go_wp2_with (fail)
  obtain ⟨ty, hty⟩ : ∃ q, Hid (w.heap.size + 1 = q) := ⟨_, Lib.hid rfl⟩
  rw [hty.out] at HT1 ⊢
  obtain ⟨bx, hbx⟩ : ∃ q, Hid (w.heap.size = q) := ⟨_, Lib.hid rfl⟩
  rw [hbx.out] at HA1 ⊢
  generalize hV : World.alloc (World.alloc w _) _ = V1 at HA1 HT1 Hb1 ⊢
  clear hV
  refine (live13_any V1).mono ?_
  rintro e w2 ⟨rfl, hb⟩
  have HA2 := Lib.hid (HA1.out.below hb HA1.out.lt)
  have HT2 := Lib.hid (HT1.out.below hb HT1.out.lt)
  have Hb2 := Lib.hid (Hb1.out.trans (hb.mono Hb1.out.size))
  clear hb
  have x0 := HA2.out.cell 0
  have x1 := HA2.out.cell 1
  have x2 := HA2.out.cell 2
  have xl := HA2.out.lt
  have y0 := HT2.out.cell 0
  have y1 := HT2.out.cell 1
  have y2 := HT2.out.cell 2
  have y3 := HT2.out.cell 3
  have yl := HT2.out.lt
  simp only [List.getElem?_cons_zero, List.getElem?_cons_succ] at x0 x1 x2 y0 y1 y2 y3
  go_wp2_with (fail)
  refine (HFw.out w2 Hb2.out).mono ?_
  rintro e w3 ⟨b, rfl, hb⟩
  have HA3 := Lib.hid (HA2.out.below hb HA2.out.lt)
  have HT3 := Lib.hid (HT2.out.below hb HT2.out.lt)
  have Hb3 := Lib.hid (Hb2.out.trans (hb.mono Hb2.out.size))
  clear hb x0 x1 x2 xl y0 y1 y2 y3 yl HFw
  cases b with
  | false =>
    go_wp2_with (fail)
    exact bodyPost_ret (v := .bool true) (by simp [results, Try.results11, go_sem]; try first | rfl | assumption | omega) rfl ⟨rfl, Hb3.out⟩
  | true =>
    have x0 := HA3.out.cell 0
    have x1 := HA3.out.cell 1
    have x2 := HA3.out.cell 2
    have xl := HA3.out.lt
    have y0 := HT3.out.cell 0
    have y1 := HT3.out.cell 1
    have y2 := HT3.out.cell 2
    have y3 := HT3.out.cell 3
    have yl := HT3.out.lt
    simp only [List.getElem?_cons_zero, List.getElem?_cons_succ] at x0 x1 x2 y0 y1 y2 y3
    go_wp2_with (fail)
    refine (HFt.out w3 Hb3.out).mono ?_
    rintro e w4 ⟨b, rfl, hsz, hb⟩
    have HA4 := Lib.hid (HA3.out.below hb HA3.out.lt)
    have HT4 := Lib.hid (HT3.out.below hb HT3.out.lt)
    have Hb4 := Lib.hid (Hb3.out.trans (hb.mono Hb3.out.size))
    clear hb x0 x1 x2 xl y0 y1 y2 y3 yl HFt
    cases b with
    | false =>
      go_wp2_with (fail)
      exact bodyPost_ret (v := .bool true) (by simp [results, Try.results11, go_sem]; try first | rfl | assumption | omega) rfl ⟨rfl, Hb4.out⟩
    | true =>
    have hsz9 : kids.size ≤ 499 := by have := hsz.out rfl; omega
    have HYd := Lib.hid (HYd0.out hsz9)
    have HCk := Lib.hid (HCk0.out hsz9)
    have HSt := Lib.hid (HSt0.out hsz9)
    clear HYd0 HCk0 HSt0 hsz
    go_upto_region 4 with fail
    have HB0 := Lib.hid ((Below.refl w4.heap.size w4).drew)
    have HS0 : Hid ((w4.drew).cell? ⟨bx, 0, none⟩ = some (.slice xta T xtc) ∧ (w4.drew).cell? ⟨bx, 1, none⟩ = some (.slice xna N xnc) ∧ (w4.drew).cell? ⟨bx, 2, none⟩ = some (.slice xaa L xac) ∧ (w4.drew).cell? ⟨ty, 0, none⟩ = some (.int .i64 hk) ∧ (w4.drew).cell? ⟨ty, 1, none⟩ = some (.int .i64 hi) ∧ (w4.drew).cell? ⟨ty, 2, none⟩ = some (.int .i64 ha) ∧ (w4.drew).cell? ⟨ty, 3, none⟩ = some (.slice a KL cap)) := Lib.hid ⟨(HA4.out.below HB0.out HA4.out.lt).cell 0, (HA4.out.below HB0.out HA4.out.lt).cell 1, (HA4.out.below HB0.out HA4.out.lt).cell 2, (HT4.out.below HB0.out HT4.out.lt).cell 0, (HT4.out.below HB0.out HT4.out.lt).cell 1, (HT4.out.below HB0.out HT4.out.lt).cell 2, (HT4.out.below HB0.out HT4.out.lt).cell 3⟩
    refine wp_region_held_drew (S := fun w' => w'.cell? ⟨bx, 0, none⟩ = some (.slice xta T xtc) ∧ w'.cell? ⟨bx, 1, none⟩ = some (.slice xna N xnc) ∧ w'.cell? ⟨bx, 2, none⟩ = some (.slice xaa L xac) ∧ w'.cell? ⟨ty, 0, none⟩ = some (.int .i64 hk) ∧ w'.cell? ⟨ty, 1, none⟩ = some (.int .i64 hi) ∧ w'.cell? ⟨ty, 2, none⟩ = some (.int .i64 ha) ∧ w'.cell? ⟨ty, 3, none⟩ = some (.slice a KL cap)) (by kernel_rfl) ?_ (fun hHeld => ?_)
    · exact HS0.out
    generalize World.drew w4 = K0 at HB0 HS0 hHeld ⊢
    refine wpAnyH_take (i := 0) (v := ?_) (iatLS iatZS) (by kernel_rfl) (by kernel_rfl) (by kernel_rfl) (fun _ _ _ h => h) (Or.inl ⟨by rfl, ?_⟩) (by assumption) ?_
    rotate_left
    · intro w hSw
      try dsimp only at hSw
      go_simp
      all_goals with_reducible rfl
    try simp only [Act.put, List.setIfInBounds_toArray, List.set_cons_zero, List.set_cons_succ]
    refine wpAnyH_take (i := 1) (v := ?_) (iatLS (iatSS iatZS)) (by kernel_rfl) (by kernel_rfl) (by kernel_rfl) (fun _ _ _ h => h) (Or.inl ⟨by rfl, ?_⟩) (by assumption) ?_
    rotate_left
    · intro w hSw
      try dsimp only at hSw
      go_simp
      all_goals with_reducible rfl
    try simp only [Act.put, List.setIfInBounds_toArray, List.set_cons_zero, List.set_cons_succ]
    refine wpAnyH_take (i := 2) (v := ?_) (iatLS (iatSS (iatSS iatZS))) (by kernel_rfl) (by kernel_rfl) (by kernel_rfl) (fun _ _ _ h => h) (Or.inl ⟨by rfl, ?_⟩) (by assumption) ?_
    rotate_left
    · intro w hSw
      try dsimp only at hSw
      go_simp
      all_goals with_reducible rfl
    try simp only [Act.put, List.setIfInBounds_toArray, List.set_cons_zero, List.set_cons_succ]
    refine wpAnyH_ready (rs := [3]) (by kernel_rfl) (by simp) ?_
    refine AllReadyH.cons (iatLS (iatSS (iatSS (iatSS iatZS)))) (fun K hK => ?_) AllReadyH.nil
    go_simp
    refine (HYd.out K0 (Hb4.out.trans (HB0.out.mono Hb4.out.size))).mono ?_
    rintro e9 K1 ⟨ya, yc, rfl, hy, hb⟩
    have HY1 := Lib.hid hy
    have HB1 := Lib.hid (HB0.out.trans (hb.mono HB0.out.size))
    have HS1 : Hid (K1.cell? ⟨bx, 0, none⟩ = some (.slice xta T xtc) ∧ K1.cell? ⟨bx, 1, none⟩ = some (.slice xna N xnc) ∧ K1.cell? ⟨bx, 2, none⟩ = some (.slice xaa L xac) ∧ K1.cell? ⟨ty, 0, none⟩ = some (.int .i64 hk) ∧ K1.cell? ⟨ty, 1, none⟩ = some (.int .i64 hi) ∧ K1.cell? ⟨ty, 2, none⟩ = some (.int .i64 ha) ∧ K1.cell? ⟨ty, 3, none⟩ = some (.slice a KL cap)) := Lib.hid ⟨(HA4.out.below HB1.out HA4.out.lt).cell 0, (HA4.out.below HB1.out HA4.out.lt).cell 1, (HA4.out.below HB1.out HA4.out.lt).cell 2, (HT4.out.below HB1.out HT4.out.lt).cell 0, (HT4.out.below HB1.out HT4.out.lt).cell 1, (HT4.out.below HB1.out HT4.out.lt).cell 2, (HT4.out.below HB1.out HT4.out.lt).cell 3⟩
    clear hb hy
    try dsimp only
    refine hK.out _ _ ?_ (fun hHeld => ?_)
    · exact HS1.out
    clear hK K
    try simp only [Act.put, List.setIfInBounds_toArray, List.set_cons_zero, List.set_cons_succ]
    refine wpAnyH_ready (rs := [4]) (by kernel_rfl) (by simp) ?_
    refine AllReadyH.cons (iatLS (iatSS (iatSS (iatSS (iatSS iatZS))))) (fun K hK => ?_) AllReadyH.nil
    go_simp
    refine (HCk.out K1 (Hb4.out.trans (HB1.out.mono Hb4.out.size)) ya yc HY1.out).mono ?_
    rintro e9 K2 ⟨b, rfl, hbc, hb⟩
    have Hbc := Lib.hid hbc
    have HB2 := Lib.hid (HB1.out.trans (hb.mono HB1.out.size))
    have HS2 : Hid (K2.cell? ⟨bx, 0, none⟩ = some (.slice xta T xtc) ∧ K2.cell? ⟨bx, 1, none⟩ = some (.slice xna N xnc) ∧ K2.cell? ⟨bx, 2, none⟩ = some (.slice xaa L xac) ∧ K2.cell? ⟨ty, 0, none⟩ = some (.int .i64 hk) ∧ K2.cell? ⟨ty, 1, none⟩ = some (.int .i64 hi) ∧ K2.cell? ⟨ty, 2, none⟩ = some (.int .i64 ha) ∧ K2.cell? ⟨ty, 3, none⟩ = some (.slice a KL cap)) := Lib.hid ⟨(HA4.out.below HB2.out HA4.out.lt).cell 0, (HA4.out.below HB2.out HA4.out.lt).cell 1, (HA4.out.below HB2.out HA4.out.lt).cell 2, (HT4.out.below HB2.out HT4.out.lt).cell 0, (HT4.out.below HB2.out HT4.out.lt).cell 1, (HT4.out.below HB2.out HT4.out.lt).cell 2, (HT4.out.below HB2.out HT4.out.lt).cell 3⟩
    clear hb hbc
    try dsimp only
    refine hK.out _ _ ?_ (fun hHeld => ?_)
    · exact HS2.out
    clear hK K
    try simp only [Act.put, List.setIfInBounds_toArray, List.set_cons_zero, List.set_cons_succ]
    refine wpAnyH_take (i := 5) (v := ?_) (iatLS (iatSS (iatSS (iatSS (iatSS (iatSS iatZS)))))) (by kernel_rfl) (by kernel_rfl) (by kernel_rfl) (fun _ _ _ h => h) (Or.inl ⟨by rfl, ?_⟩) (by assumption) ?_
    rotate_left
    · intro w hSw
      try dsimp only at hSw
      go_simp
      all_goals with_reducible rfl
    try simp only [Act.put, List.setIfInBounds_toArray, List.set_cons_zero, List.set_cons_succ]
    refine wpAnyH_done (by kernel_rfl) ?_ _
    cases b with
    | false =>
      go_wp2_with (fail)
      exact bodyPost_ret (v := .bool true) (by simp [results, Try.results11, go_sem]; try first | rfl | assumption | omega) rfl ⟨rfl, Hb4.out.trans (HB2.out.mono Hb4.out.size)⟩
    | true =>
      have hck := Hbc.out.1 rfl
      clear Hbc HY1 HYd HCk HB1 HS1
      have hb := HB2.out
      have HA6 := Lib.hid (HA4.out.below hb HA4.out.lt)
      have HT6 := Lib.hid (HT4.out.below hb HT4.out.lt)
      have Hb6 := Lib.hid (Hb4.out.trans (hb.mono Hb4.out.size))
      obtain ⟨hk1, hg1, -, hy1⟩ := hck
      have hgb := grow_back (d := d) (t := ⟨hk, hi, ha, kids⟩) (by have := hg1.1; exact this) (by show (TrF.cons ⟨hk, hi, ha⟩ kids .nil).size ≤ 20000; simp only [TrF.size]; omega) hy1
      have Hpr : Hid (psOfG (gwGrow d (TrF.cons ⟨hk, hi, ha⟩ kids .nil).st) = .ok ⟨hk, hi, ha, kids⟩ 0 0) := Lib.hid (by
        have h9 : gwGrow d (TrF.cons ⟨hk, hi, ha⟩ kids .nil).st = _ := hgb
        rw [h9]
        rfl)
      have hGr2 : ∀ V, Below w.heap.size w V → ∀ sa sc, Ints V sa sc (TrF.cons ⟨hk, hi, ha⟩ kids .nil).st → Calls Try.prog 54 #[.agg #[.slice xta T xtc, .slice xna N xnc, .slice xaa L xac], .slice sa SL sc] V (TreQ V (.ok ⟨hk, hi, ha, kids⟩ 0 0)) := fun V hV sa sc hs => by
        have h9 := HGr0.out V hV sa sc hs
        rw [Hpr.out] at h9
        exact h9
      have HGr := Lib.hid hGr2
      clear hk1 hg1 hy1 hgb hb hGr2 Hpr HGr0 HS2 HB2 HB0 HS0
      go_upto_region 6 with fail
      obtain ⟨w6, rfl⟩ : ∃ q, q = K2 := ⟨_, rfl⟩
      go_cut [6, 7, 8] from 17 (fun v6 v7 v8 wc => ∃ (nb : Nat) (p x : Int), v6 = .pointer (some ⟨nb, 0, none⟩) ∧ v7 = .int .i64 p ∧ v8 = .int .i64 x ∧ Hid (Below w6.heap.size w6 wc ∧ BoxR wc (.ok ⟨hk, hi, ha, kids⟩ 0 0) nb p x))
      case first =>
          have HB0 := Lib.hid ((Below.refl w6.heap.size w6).drew)
          have HS0 : Hid ((w6.drew).cell? ⟨bx, 0, none⟩ = some (.slice xta T xtc) ∧ (w6.drew).cell? ⟨bx, 1, none⟩ = some (.slice xna N xnc) ∧ (w6.drew).cell? ⟨bx, 2, none⟩ = some (.slice xaa L xac) ∧ (w6.drew).cell? ⟨ty, 0, none⟩ = some (.int .i64 hk) ∧ (w6.drew).cell? ⟨ty, 1, none⟩ = some (.int .i64 hi) ∧ (w6.drew).cell? ⟨ty, 2, none⟩ = some (.int .i64 ha) ∧ (w6.drew).cell? ⟨ty, 3, none⟩ = some (.slice a KL cap)) := Lib.hid (⟨(HA6.out.below HB0.out HA6.out.lt).cell 0, (HA6.out.below HB0.out HA6.out.lt).cell 1, (HA6.out.below HB0.out HA6.out.lt).cell 2, (HT6.out.below HB0.out HT6.out.lt).cell 0, (HT6.out.below HB0.out HT6.out.lt).cell 1, (HT6.out.below HB0.out HT6.out.lt).cell 2, (HT6.out.below HB0.out HT6.out.lt).cell 3⟩)
          refine wp_region_held_drew (S := fun w' => w'.cell? ⟨bx, 0, none⟩ = some (.slice xta T xtc) ∧ w'.cell? ⟨bx, 1, none⟩ = some (.slice xna N xnc) ∧ w'.cell? ⟨bx, 2, none⟩ = some (.slice xaa L xac) ∧ w'.cell? ⟨ty, 0, none⟩ = some (.int .i64 hk) ∧ w'.cell? ⟨ty, 1, none⟩ = some (.int .i64 hi) ∧ w'.cell? ⟨ty, 2, none⟩ = some (.int .i64 ha) ∧ w'.cell? ⟨ty, 3, none⟩ = some (.slice a KL cap)) (by kernel_rfl) ?_ (fun hHeld => ?_)
          · exact HS0.out
          generalize World.drew w6 = K0 at HB0 HS0 hHeld ⊢
          refine wpAnyH_take (i := 0) (v := ?_) (iatLS iatZS) (by kernel_rfl) (by kernel_rfl) (by kernel_rfl) (fun _ _ _ h => h) (Or.inl ⟨by rfl, ?_⟩) (by assumption) ?_
          rotate_left
          · intro w hSw
            try dsimp only at hSw
            go_simp
            all_goals with_reducible rfl
          try simp only [Act.put, List.setIfInBounds_toArray, List.set_cons_zero, List.set_cons_succ]
          refine wpAnyH_take (i := 1) (v := ?_) (iatLS (iatSS iatZS)) (by kernel_rfl) (by kernel_rfl) (by kernel_rfl) (fun _ _ _ h => h) (Or.inl ⟨by rfl, ?_⟩) (by assumption) ?_
          rotate_left
          · intro w hSw
            try dsimp only at hSw
            go_simp
            all_goals with_reducible rfl
          try simp only [Act.put, List.setIfInBounds_toArray, List.set_cons_zero, List.set_cons_succ]
          refine wpAnyH_ready (rs := [2, 8]) (by kernel_rfl) (by simp) ?_
          refine AllReadyH.cons (iatLS (iatSS (iatSS iatZS))) (fun K hK => ?_) (AllReadyH.cons (iatLS (iatSS (iatSS (iatSS (iatSS (iatSS (iatSS (iatSS (iatSS iatZS))))))))) (fun K hK => ?_) (AllReadyH.nil))
          ·
            go_simp
            refine (HSt.out K0 (Hb6.out.trans (HB0.out.mono Hb6.out.size))).mono ?_
            rintro e9 K1 ⟨sa, sc, rfl, hs, hb⟩
            have HO1 := Lib.hid hs
            clear hs
            have HB1 := Lib.hid (HB0.out.trans (hb.mono HB0.out.size))
            have HS1 : Hid (K1.cell? ⟨bx, 0, none⟩ = some (.slice xta T xtc) ∧ K1.cell? ⟨bx, 1, none⟩ = some (.slice xna N xnc) ∧ K1.cell? ⟨bx, 2, none⟩ = some (.slice xaa L xac) ∧ K1.cell? ⟨ty, 0, none⟩ = some (.int .i64 hk) ∧ K1.cell? ⟨ty, 1, none⟩ = some (.int .i64 hi) ∧ K1.cell? ⟨ty, 2, none⟩ = some (.int .i64 ha) ∧ K1.cell? ⟨ty, 3, none⟩ = some (.slice a KL cap)) := Lib.hid (⟨(HA6.out.below HB1.out HA6.out.lt).cell 0, (HA6.out.below HB1.out HA6.out.lt).cell 1, (HA6.out.below HB1.out HA6.out.lt).cell 2, (HT6.out.below HB1.out HT6.out.lt).cell 0, (HT6.out.below HB1.out HT6.out.lt).cell 1, (HT6.out.below HB1.out HT6.out.lt).cell 2, (HT6.out.below HB1.out HT6.out.lt).cell 3⟩)
            clear hb
            try dsimp only
            refine hK.out _ _ ?_ (fun hHeld => ?_)
            · exact HS1.out
            clear hK K
            try simp only [Act.put, List.setIfInBounds_toArray, List.set_cons_zero, List.set_cons_succ]
            refine wpAnyH_ready (rs := [3, 8]) (by kernel_rfl) (by simp) ?_
            refine AllReadyH.cons (iatLS (iatSS (iatSS (iatSS iatZS)))) (fun K hK => ?_) (AllReadyH.cons (iatLS (iatSS (iatSS (iatSS (iatSS (iatSS (iatSS (iatSS (iatSS iatZS))))))))) (fun K hK => ?_) (AllReadyH.nil))
            ·
              go_simp
              (with_reducible refine (HGr.out K1 (Hb6.out.trans (HB1.out.mono Hb6.out.size)) sa sc HO1.out).mono ?_)
              intro e9 K2 hT
              have hb := hT.1
              obtain ⟨tk, ti, ta, tga, tn, tgc, p, x, rfl, hX⟩ := tre_box hT
              have HX := Lib.hid hX
              clear hT hX
              have HO2 := Lib.hid (HO1.out.grown hb)
              have HB2 := Lib.hid (HB1.out.trans (hb.mono HB1.out.size))
              have HC2 := Lib.hid (Below.refl K2.heap.size K2)
              have HS2 : Hid (K2.cell? ⟨bx, 0, none⟩ = some (.slice xta T xtc) ∧ K2.cell? ⟨bx, 1, none⟩ = some (.slice xna N xnc) ∧ K2.cell? ⟨bx, 2, none⟩ = some (.slice xaa L xac) ∧ K2.cell? ⟨ty, 0, none⟩ = some (.int .i64 hk) ∧ K2.cell? ⟨ty, 1, none⟩ = some (.int .i64 hi) ∧ K2.cell? ⟨ty, 2, none⟩ = some (.int .i64 ha) ∧ K2.cell? ⟨ty, 3, none⟩ = some (.slice a KL cap)) := Lib.hid (⟨(HA6.out.below HB2.out HA6.out.lt).cell 0, (HA6.out.below HB2.out HA6.out.lt).cell 1, (HA6.out.below HB2.out HA6.out.lt).cell 2, (HT6.out.below HB2.out HT6.out.lt).cell 0, (HT6.out.below HB2.out HT6.out.lt).cell 1, (HT6.out.below HB2.out HT6.out.lt).cell 2, (HT6.out.below HB2.out HT6.out.lt).cell 3⟩)
              clear hb
              try dsimp only
              refine hK.out _ _ ?_ (fun hHeld => ?_)
              · exact HS2.out
              clear hK K
              try simp only [Act.put, List.setIfInBounds_toArray, List.set_cons_zero, List.set_cons_succ]
              refine wpAnyH_take (i := 4) (v := ?_) (iatLS (iatSS (iatSS (iatSS (iatSS iatZS))))) (by kernel_rfl) (by kernel_rfl) (by kernel_rfl) (fun _ _ _ h => h) (Or.inl ⟨by rfl, ?_⟩) (by assumption) ?_
              rotate_left
              · intro w hSw
                try dsimp only at hSw
                go_simp
                all_goals with_reducible rfl
              try simp only [Act.put, List.setIfInBounds_toArray, List.set_cons_zero, List.set_cons_succ]
              refine wpAnyH_take (i := 5) (v := ?_) (iatLS (iatSS (iatSS (iatSS (iatSS (iatSS iatZS)))))) (by kernel_rfl) (by kernel_rfl) (by kernel_rfl) (fun _ _ _ h => h) (Or.inl ⟨by rfl, ?_⟩) (by assumption) ?_
              rotate_left
              · intro w hSw
                try dsimp only at hSw
                go_simp
                all_goals with_reducible rfl
              try simp only [Act.put, List.setIfInBounds_toArray, List.set_cons_zero, List.set_cons_succ]
              refine wpAnyH_take (i := 6) (v := ?_) (iatLS (iatSS (iatSS (iatSS (iatSS (iatSS (iatSS iatZS))))))) (by kernel_rfl) (by kernel_rfl) (by kernel_rfl) (fun _ _ _ h => h) (Or.inl ⟨by rfl, ?_⟩) (by assumption) ?_
              rotate_left
              · intro w hSw
                try dsimp only at hSw
                go_simp
                all_goals with_reducible rfl
              try simp only [Act.put, List.setIfInBounds_toArray, List.set_cons_zero, List.set_cons_succ]
              refine wpAnyH_take (i := 7) (v := ?_) (iatLS (iatSS (iatSS (iatSS (iatSS (iatSS (iatSS (iatSS iatZS)))))))) (by kernel_rfl) (by kernel_rfl) (by kernel_rfl) (fun _ _ _ h => h) (Or.inl ⟨by rfl, ?_⟩) (by assumption) ?_
              rotate_left
              · intro w hSw
                try dsimp only at hSw
                go_simp
                all_goals with_reducible rfl
              try simp only [Act.put, List.setIfInBounds_toArray, List.set_cons_zero, List.set_cons_succ]
              refine wpAnyH_ready (rs := [8]) (by kernel_rfl) (by simp) ?_
              refine AllReadyH.cons (iatLS (iatSS (iatSS (iatSS (iatSS (iatSS (iatSS (iatSS (iatSS iatZS))))))))) (fun K hK => ?_) AllReadyH.nil
              go_simp
              obtain ⟨nb, hnb⟩ : ∃ q, Hid (K2.heap.size = q) := ⟨_, Lib.hid rfl⟩
              rw [hnb.out]
              generalize hW3 : World.alloc K2 _ = K3
              have hb : Below K2.heap.size K2 K3 := by rw [← hW3]; exact (Below.refl _ _).alloc (Nat.le_refl _) _
              have HN3 : Hid (Blk K3 nb 51 [.int .i64 0, .int .i64 0, .int .i64 0, .slice none 0 0]) := Lib.hid (by rw [← hW3, ← hnb.out]; exact Blk.new _ 51 #[.int .i64 0, .int .i64 0, .int .i64 0, .slice none 0 0])
              have Hnb : Hid (w6.heap.size ≤ nb) := Lib.hid (by rw [← hnb.out]; exact HB2.out.size)
              have HO3 := Lib.hid (HO2.out.grown hb)
              have HB3 := Lib.hid (HB2.out.trans (hb.mono HB2.out.size))
              have HC3 := Lib.hid (HC2.out.trans (hb.mono HC2.out.size))
              have Hnc : Hid (nb < K1.heap.size ∨ K2.heap.size ≤ nb) := Lib.hid (.inr (Nat.le_trans HC2.out.size (Nat.le_of_eq hnb.out)))
              have HS3 : Hid (K3.cell? ⟨bx, 0, none⟩ = some (.slice xta T xtc) ∧ K3.cell? ⟨bx, 1, none⟩ = some (.slice xna N xnc) ∧ K3.cell? ⟨bx, 2, none⟩ = some (.slice xaa L xac) ∧ K3.cell? ⟨ty, 0, none⟩ = some (.int .i64 hk) ∧ K3.cell? ⟨ty, 1, none⟩ = some (.int .i64 hi) ∧ K3.cell? ⟨ty, 2, none⟩ = some (.int .i64 ha) ∧ K3.cell? ⟨ty, 3, none⟩ = some (.slice a KL cap)) := Lib.hid (⟨(HA6.out.below HB3.out HA6.out.lt).cell 0, (HA6.out.below HB3.out HA6.out.lt).cell 1, (HA6.out.below HB3.out HA6.out.lt).cell 2, (HT6.out.below HB3.out HT6.out.lt).cell 0, (HT6.out.below HB3.out HT6.out.lt).cell 1, (HT6.out.below HB3.out HT6.out.lt).cell 2, (HT6.out.below HB3.out HT6.out.lt).cell 3⟩)
              clear hW3 hb hnb
              refine hK.out _ _ ?_ (fun hHeld => ?_)
              · exact HS3.out
              clear hK K
              try simp only [Act.put, List.setIfInBounds_toArray, List.set_cons_zero, List.set_cons_succ]
              refine wpAnyH_ready (rs := [9]) (by kernel_rfl) (by simp) ?_
              refine AllReadyH.cons (iatLS (iatSS (iatSS (iatSS (iatSS (iatSS (iatSS (iatSS (iatSS (iatSS iatZS)))))))))) (fun K hK => ?_) AllReadyH.nil
              have n0 := HN3.out.cell 0
              have n1 := HN3.out.cell 1
              have n2 := HN3.out.cell 2
              have n3 := HN3.out.cell 3
              have f0 := HN3.out.frozen 0
              have f1 := HN3.out.frozen 1
              have f2 := HN3.out.frozen 2
              have f3 := HN3.out.frozen 3
              have nl := HN3.out.lt
              simp only [List.getElem?_cons_zero, List.getElem?_cons_succ] at n0 n1 n2 n3
              go_simp
              have HF := HX.out.1 K3 nb HC3.out Hnc.out HN3.out
              have hb9 := Below.put4 HB3.out Hnb.out (.int .i64 tk) (.int .i64 ti) (.int .i64 ta) (.slice tga tn tgc)
              generalize World.setCell _ _ _ = K4 at HF hb9 ⊢
              have HF := Lib.hid HF
              have HB4 := Lib.hid hb9
              have HS4 : Hid (K4.cell? ⟨bx, 0, none⟩ = some (.slice xta T xtc) ∧ K4.cell? ⟨bx, 1, none⟩ = some (.slice xna N xnc) ∧ K4.cell? ⟨bx, 2, none⟩ = some (.slice xaa L xac) ∧ K4.cell? ⟨ty, 0, none⟩ = some (.int .i64 hk) ∧ K4.cell? ⟨ty, 1, none⟩ = some (.int .i64 hi) ∧ K4.cell? ⟨ty, 2, none⟩ = some (.int .i64 ha) ∧ K4.cell? ⟨ty, 3, none⟩ = some (.slice a KL cap)) := Lib.hid (⟨(HA6.out.below HB4.out HA6.out.lt).cell 0, (HA6.out.below HB4.out HA6.out.lt).cell 1, (HA6.out.below HB4.out HA6.out.lt).cell 2, (HT6.out.below HB4.out HT6.out.lt).cell 0, (HT6.out.below HB4.out HT6.out.lt).cell 1, (HT6.out.below HB4.out HT6.out.lt).cell 2, (HT6.out.below HB4.out HT6.out.lt).cell 3⟩)
              clear hb9 n0 n1 n2 n3 f0 f1 f2 f3 nl
              refine hK.out _ _ ?_ (fun hHeld => ?_)
              · exact HS4.out
              clear hK K
              try simp only [Act.put, List.setIfInBounds_toArray, List.set_cons_zero, List.set_cons_succ]
              refine wpAnyH_take (i := 10) (v := ?_) (iatLS (iatSS (iatSS (iatSS (iatSS (iatSS (iatSS (iatSS (iatSS (iatSS (iatSS iatZS))))))))))) (by kernel_rfl) (by kernel_rfl) (by kernel_rfl) (fun _ _ _ h => h) (Or.inl ⟨by rfl, ?_⟩) (by assumption) ?_
              rotate_left
              · intro w hSw
                try dsimp only at hSw
                go_simp
                all_goals with_reducible rfl
              try simp only [Act.put, List.setIfInBounds_toArray, List.set_cons_zero, List.set_cons_succ]
              refine wpAnyH_take (i := 11) (v := ?_) (iatLS (iatSS (iatSS (iatSS (iatSS (iatSS (iatSS (iatSS (iatSS (iatSS (iatSS (iatSS iatZS)))))))))))) (by kernel_rfl) (by kernel_rfl) (by kernel_rfl) (fun _ _ _ h => h) (Or.inl ⟨by rfl, ?_⟩) (by assumption) ?_
              rotate_left
              · intro w hSw
                try dsimp only at hSw
                go_simp
                all_goals with_reducible rfl
              try simp only [Act.put, List.setIfInBounds_toArray, List.set_cons_zero, List.set_cons_succ]
              refine wpAnyH_done (by kernel_rfl) ?_ _
              go_wp2_with (fail)
              go_meet
              exact ⟨nb, p, x, rfl, rfl, rfl, Lib.hid ⟨HB4.out, HF.out⟩⟩
            ·
              go_simp
              obtain ⟨nb, hnb⟩ : ∃ q, Hid (K1.heap.size = q) := ⟨_, Lib.hid rfl⟩
              rw [hnb.out]
              generalize hW2 : World.alloc K1 _ = K2
              have hb : Below K1.heap.size K1 K2 := by rw [← hW2]; exact (Below.refl _ _).alloc (Nat.le_refl _) _
              have HN2 : Hid (Blk K2 nb 51 [.int .i64 0, .int .i64 0, .int .i64 0, .slice none 0 0]) := Lib.hid (by rw [← hW2, ← hnb.out]; exact Blk.new _ 51 #[.int .i64 0, .int .i64 0, .int .i64 0, .slice none 0 0])
              have Hnb : Hid (w6.heap.size ≤ nb) := Lib.hid (by rw [← hnb.out]; exact HB1.out.size)
              have HO2 := Lib.hid (HO1.out.grown hb)
              have HB2 := Lib.hid (HB1.out.trans (hb.mono HB1.out.size))
              have HS2 : Hid (K2.cell? ⟨bx, 0, none⟩ = some (.slice xta T xtc) ∧ K2.cell? ⟨bx, 1, none⟩ = some (.slice xna N xnc) ∧ K2.cell? ⟨bx, 2, none⟩ = some (.slice xaa L xac) ∧ K2.cell? ⟨ty, 0, none⟩ = some (.int .i64 hk) ∧ K2.cell? ⟨ty, 1, none⟩ = some (.int .i64 hi) ∧ K2.cell? ⟨ty, 2, none⟩ = some (.int .i64 ha) ∧ K2.cell? ⟨ty, 3, none⟩ = some (.slice a KL cap)) := Lib.hid (⟨(HA6.out.below HB2.out HA6.out.lt).cell 0, (HA6.out.below HB2.out HA6.out.lt).cell 1, (HA6.out.below HB2.out HA6.out.lt).cell 2, (HT6.out.below HB2.out HT6.out.lt).cell 0, (HT6.out.below HB2.out HT6.out.lt).cell 1, (HT6.out.below HB2.out HT6.out.lt).cell 2, (HT6.out.below HB2.out HT6.out.lt).cell 3⟩)
              clear hW2 hb hnb
              refine hK.out _ _ ?_ (fun hHeld => ?_)
              · exact HS2.out
              clear hK K
              try simp only [Act.put, List.setIfInBounds_toArray, List.set_cons_zero, List.set_cons_succ]
              refine wpAnyH_ready (rs := [3]) (by kernel_rfl) (by simp) ?_
              refine AllReadyH.cons (iatLS (iatSS (iatSS (iatSS iatZS)))) (fun K hK => ?_) AllReadyH.nil
              go_simp
              (with_reducible refine (HGr.out K2 (Hb6.out.trans (HB2.out.mono Hb6.out.size)) sa sc HO2.out).mono ?_)
              intro e9 K3 hT
              have hb := hT.1
              obtain ⟨tk, ti, ta, tga, tn, tgc, p, x, rfl, hX⟩ := tre_box hT
              have HX := Lib.hid hX
              clear hT hX
              have HO3 := Lib.hid (HO2.out.grown hb)
              have HB3 := Lib.hid (HB2.out.trans (hb.mono HB2.out.size))
              have HN3 := Lib.hid (HN2.out.below hb HN2.out.lt)
              have HC3 := Lib.hid (Below.refl K3.heap.size K3)
              have Hnc : Hid (nb < K2.heap.size ∨ K3.heap.size ≤ nb) := Lib.hid (.inl HN2.out.lt)
              have HS3 : Hid (K3.cell? ⟨bx, 0, none⟩ = some (.slice xta T xtc) ∧ K3.cell? ⟨bx, 1, none⟩ = some (.slice xna N xnc) ∧ K3.cell? ⟨bx, 2, none⟩ = some (.slice xaa L xac) ∧ K3.cell? ⟨ty, 0, none⟩ = some (.int .i64 hk) ∧ K3.cell? ⟨ty, 1, none⟩ = some (.int .i64 hi) ∧ K3.cell? ⟨ty, 2, none⟩ = some (.int .i64 ha) ∧ K3.cell? ⟨ty, 3, none⟩ = some (.slice a KL cap)) := Lib.hid (⟨(HA6.out.below HB3.out HA6.out.lt).cell 0, (HA6.out.below HB3.out HA6.out.lt).cell 1, (HA6.out.below HB3.out HA6.out.lt).cell 2, (HT6.out.below HB3.out HT6.out.lt).cell 0, (HT6.out.below HB3.out HT6.out.lt).cell 1, (HT6.out.below HB3.out HT6.out.lt).cell 2, (HT6.out.below HB3.out HT6.out.lt).cell 3⟩)
              clear hb
              try dsimp only
              refine hK.out _ _ ?_ (fun hHeld => ?_)
              · exact HS3.out
              clear hK K
              try simp only [Act.put, List.setIfInBounds_toArray, List.set_cons_zero, List.set_cons_succ]
              refine wpAnyH_take (i := 4) (v := ?_) (iatLS (iatSS (iatSS (iatSS (iatSS iatZS))))) (by kernel_rfl) (by kernel_rfl) (by kernel_rfl) (fun _ _ _ h => h) (Or.inl ⟨by rfl, ?_⟩) (by assumption) ?_
              rotate_left
              · intro w hSw
                try dsimp only at hSw
                go_simp
                all_goals with_reducible rfl
              try simp only [Act.put, List.setIfInBounds_toArray, List.set_cons_zero, List.set_cons_succ]
              refine wpAnyH_take (i := 5) (v := ?_) (iatLS (iatSS (iatSS (iatSS (iatSS (iatSS iatZS)))))) (by kernel_rfl) (by kernel_rfl) (by kernel_rfl) (fun _ _ _ h => h) (Or.inl ⟨by rfl, ?_⟩) (by assumption) ?_
              rotate_left
              · intro w hSw
                try dsimp only at hSw
                go_simp
                all_goals with_reducible rfl
              try simp only [Act.put, List.setIfInBounds_toArray, List.set_cons_zero, List.set_cons_succ]
              refine wpAnyH_take (i := 6) (v := ?_) (iatLS (iatSS (iatSS (iatSS (iatSS (iatSS (iatSS iatZS))))))) (by kernel_rfl) (by kernel_rfl) (by kernel_rfl) (fun _ _ _ h => h) (Or.inl ⟨by rfl, ?_⟩) (by assumption) ?_
              rotate_left
              · intro w hSw
                try dsimp only at hSw
                go_simp
                all_goals with_reducible rfl
              try simp only [Act.put, List.setIfInBounds_toArray, List.set_cons_zero, List.set_cons_succ]
              refine wpAnyH_take (i := 7) (v := ?_) (iatLS (iatSS (iatSS (iatSS (iatSS (iatSS (iatSS (iatSS iatZS)))))))) (by kernel_rfl) (by kernel_rfl) (by kernel_rfl) (fun _ _ _ h => h) (Or.inl ⟨by rfl, ?_⟩) (by assumption) ?_
              rotate_left
              · intro w hSw
                try dsimp only at hSw
                go_simp
                all_goals with_reducible rfl
              try simp only [Act.put, List.setIfInBounds_toArray, List.set_cons_zero, List.set_cons_succ]
              refine wpAnyH_ready (rs := [9]) (by kernel_rfl) (by simp) ?_
              refine AllReadyH.cons (iatLS (iatSS (iatSS (iatSS (iatSS (iatSS (iatSS (iatSS (iatSS (iatSS iatZS)))))))))) (fun K hK => ?_) AllReadyH.nil
              have n0 := HN3.out.cell 0
              have n1 := HN3.out.cell 1
              have n2 := HN3.out.cell 2
              have n3 := HN3.out.cell 3
              have f0 := HN3.out.frozen 0
              have f1 := HN3.out.frozen 1
              have f2 := HN3.out.frozen 2
              have f3 := HN3.out.frozen 3
              have nl := HN3.out.lt
              simp only [List.getElem?_cons_zero, List.getElem?_cons_succ] at n0 n1 n2 n3
              go_simp
              have HF := HX.out.1 K3 nb HC3.out Hnc.out HN3.out
              have hb9 := Below.put4 HB3.out Hnb.out (.int .i64 tk) (.int .i64 ti) (.int .i64 ta) (.slice tga tn tgc)
              generalize World.setCell _ _ _ = K4 at HF hb9 ⊢
              have HF := Lib.hid HF
              have HB4 := Lib.hid hb9
              have HS4 : Hid (K4.cell? ⟨bx, 0, none⟩ = some (.slice xta T xtc) ∧ K4.cell? ⟨bx, 1, none⟩ = some (.slice xna N xnc) ∧ K4.cell? ⟨bx, 2, none⟩ = some (.slice xaa L xac) ∧ K4.cell? ⟨ty, 0, none⟩ = some (.int .i64 hk) ∧ K4.cell? ⟨ty, 1, none⟩ = some (.int .i64 hi) ∧ K4.cell? ⟨ty, 2, none⟩ = some (.int .i64 ha) ∧ K4.cell? ⟨ty, 3, none⟩ = some (.slice a KL cap)) := Lib.hid (⟨(HA6.out.below HB4.out HA6.out.lt).cell 0, (HA6.out.below HB4.out HA6.out.lt).cell 1, (HA6.out.below HB4.out HA6.out.lt).cell 2, (HT6.out.below HB4.out HT6.out.lt).cell 0, (HT6.out.below HB4.out HT6.out.lt).cell 1, (HT6.out.below HB4.out HT6.out.lt).cell 2, (HT6.out.below HB4.out HT6.out.lt).cell 3⟩)
              clear hb9 n0 n1 n2 n3 f0 f1 f2 f3 nl
              refine hK.out _ _ ?_ (fun hHeld => ?_)
              · exact HS4.out
              clear hK K
              try simp only [Act.put, List.setIfInBounds_toArray, List.set_cons_zero, List.set_cons_succ]
              refine wpAnyH_take (i := 10) (v := ?_) (iatLS (iatSS (iatSS (iatSS (iatSS (iatSS (iatSS (iatSS (iatSS (iatSS (iatSS iatZS))))))))))) (by kernel_rfl) (by kernel_rfl) (by kernel_rfl) (fun _ _ _ h => h) (Or.inl ⟨by rfl, ?_⟩) (by assumption) ?_
              rotate_left
              · intro w hSw
                try dsimp only at hSw
                go_simp
                all_goals with_reducible rfl
              try simp only [Act.put, List.setIfInBounds_toArray, List.set_cons_zero, List.set_cons_succ]
              refine wpAnyH_take (i := 11) (v := ?_) (iatLS (iatSS (iatSS (iatSS (iatSS (iatSS (iatSS (iatSS (iatSS (iatSS (iatSS (iatSS iatZS)))))))))))) (by kernel_rfl) (by kernel_rfl) (by kernel_rfl) (fun _ _ _ h => h) (Or.inl ⟨by rfl, ?_⟩) (by assumption) ?_
              rotate_left
              · intro w hSw
                try dsimp only at hSw
                go_simp
                all_goals with_reducible rfl
              try simp only [Act.put, List.setIfInBounds_toArray, List.set_cons_zero, List.set_cons_succ]
              refine wpAnyH_done (by kernel_rfl) ?_ _
              go_wp2_with (fail)
              go_meet
              exact ⟨nb, p, x, rfl, rfl, rfl, Lib.hid ⟨HB4.out, HF.out⟩⟩
          ·
            go_simp
            obtain ⟨nb, hnb⟩ : ∃ q, Hid (K0.heap.size = q) := ⟨_, Lib.hid rfl⟩
            rw [hnb.out]
            generalize hW1 : World.alloc K0 _ = K1
            have hb : Below K0.heap.size K0 K1 := by rw [← hW1]; exact (Below.refl _ _).alloc (Nat.le_refl _) _
            have HN1 : Hid (Blk K1 nb 51 [.int .i64 0, .int .i64 0, .int .i64 0, .slice none 0 0]) := Lib.hid (by rw [← hW1, ← hnb.out]; exact Blk.new _ 51 #[.int .i64 0, .int .i64 0, .int .i64 0, .slice none 0 0])
            have Hnb : Hid (w6.heap.size ≤ nb) := Lib.hid (by rw [← hnb.out]; exact HB0.out.size)
            have HB1 := Lib.hid (HB0.out.trans (hb.mono HB0.out.size))
            have HS1 : Hid (K1.cell? ⟨bx, 0, none⟩ = some (.slice xta T xtc) ∧ K1.cell? ⟨bx, 1, none⟩ = some (.slice xna N xnc) ∧ K1.cell? ⟨bx, 2, none⟩ = some (.slice xaa L xac) ∧ K1.cell? ⟨ty, 0, none⟩ = some (.int .i64 hk) ∧ K1.cell? ⟨ty, 1, none⟩ = some (.int .i64 hi) ∧ K1.cell? ⟨ty, 2, none⟩ = some (.int .i64 ha) ∧ K1.cell? ⟨ty, 3, none⟩ = some (.slice a KL cap)) := Lib.hid (⟨(HA6.out.below HB1.out HA6.out.lt).cell 0, (HA6.out.below HB1.out HA6.out.lt).cell 1, (HA6.out.below HB1.out HA6.out.lt).cell 2, (HT6.out.below HB1.out HT6.out.lt).cell 0, (HT6.out.below HB1.out HT6.out.lt).cell 1, (HT6.out.below HB1.out HT6.out.lt).cell 2, (HT6.out.below HB1.out HT6.out.lt).cell 3⟩)
            clear hW1 hb hnb
            refine hK.out _ _ ?_ (fun hHeld => ?_)
            · exact HS1.out
            clear hK K
            try simp only [Act.put, List.setIfInBounds_toArray, List.set_cons_zero, List.set_cons_succ]
            refine wpAnyH_ready (rs := [2]) (by kernel_rfl) (by simp) ?_
            refine AllReadyH.cons (iatLS (iatSS (iatSS iatZS))) (fun K hK => ?_) AllReadyH.nil
            go_simp
            refine (HSt.out K1 (Hb6.out.trans (HB1.out.mono Hb6.out.size))).mono ?_
            rintro e9 K2 ⟨sa, sc, rfl, hs, hb⟩
            have HO2 := Lib.hid hs
            clear hs
            have HB2 := Lib.hid (HB1.out.trans (hb.mono HB1.out.size))
            have HN2 := Lib.hid (HN1.out.below hb HN1.out.lt)
            have HS2 : Hid (K2.cell? ⟨bx, 0, none⟩ = some (.slice xta T xtc) ∧ K2.cell? ⟨bx, 1, none⟩ = some (.slice xna N xnc) ∧ K2.cell? ⟨bx, 2, none⟩ = some (.slice xaa L xac) ∧ K2.cell? ⟨ty, 0, none⟩ = some (.int .i64 hk) ∧ K2.cell? ⟨ty, 1, none⟩ = some (.int .i64 hi) ∧ K2.cell? ⟨ty, 2, none⟩ = some (.int .i64 ha) ∧ K2.cell? ⟨ty, 3, none⟩ = some (.slice a KL cap)) := Lib.hid (⟨(HA6.out.below HB2.out HA6.out.lt).cell 0, (HA6.out.below HB2.out HA6.out.lt).cell 1, (HA6.out.below HB2.out HA6.out.lt).cell 2, (HT6.out.below HB2.out HT6.out.lt).cell 0, (HT6.out.below HB2.out HT6.out.lt).cell 1, (HT6.out.below HB2.out HT6.out.lt).cell 2, (HT6.out.below HB2.out HT6.out.lt).cell 3⟩)
            clear hb
            try dsimp only
            refine hK.out _ _ ?_ (fun hHeld => ?_)
            · exact HS2.out
            clear hK K
            try simp only [Act.put, List.setIfInBounds_toArray, List.set_cons_zero, List.set_cons_succ]
            refine wpAnyH_ready (rs := [3]) (by kernel_rfl) (by simp) ?_
            refine AllReadyH.cons (iatLS (iatSS (iatSS (iatSS iatZS)))) (fun K hK => ?_) AllReadyH.nil
            go_simp
            (with_reducible refine (HGr.out K2 (Hb6.out.trans (HB2.out.mono Hb6.out.size)) sa sc HO2.out).mono ?_)
            intro e9 K3 hT
            have hb := hT.1
            obtain ⟨tk, ti, ta, tga, tn, tgc, p, x, rfl, hX⟩ := tre_box hT
            have HX := Lib.hid hX
            clear hT hX
            have HO3 := Lib.hid (HO2.out.grown hb)
            have HB3 := Lib.hid (HB2.out.trans (hb.mono HB2.out.size))
            have HN3 := Lib.hid (HN2.out.below hb HN2.out.lt)
            have HC3 := Lib.hid (Below.refl K3.heap.size K3)
            have Hnc : Hid (nb < K2.heap.size ∨ K3.heap.size ≤ nb) := Lib.hid (.inl HN2.out.lt)
            have HS3 : Hid (K3.cell? ⟨bx, 0, none⟩ = some (.slice xta T xtc) ∧ K3.cell? ⟨bx, 1, none⟩ = some (.slice xna N xnc) ∧ K3.cell? ⟨bx, 2, none⟩ = some (.slice xaa L xac) ∧ K3.cell? ⟨ty, 0, none⟩ = some (.int .i64 hk) ∧ K3.cell? ⟨ty, 1, none⟩ = some (.int .i64 hi) ∧ K3.cell? ⟨ty, 2, none⟩ = some (.int .i64 ha) ∧ K3.cell? ⟨ty, 3, none⟩ = some (.slice a KL cap)) := Lib.hid (⟨(HA6.out.below HB3.out HA6.out.lt).cell 0, (HA6.out.below HB3.out HA6.out.lt).cell 1, (HA6.out.below HB3.out HA6.out.lt).cell 2, (HT6.out.below HB3.out HT6.out.lt).cell 0, (HT6.out.below HB3.out HT6.out.lt).cell 1, (HT6.out.below HB3.out HT6.out.lt).cell 2, (HT6.out.below HB3.out HT6.out.lt).cell 3⟩)
            clear hb
            try dsimp only
            refine hK.out _ _ ?_ (fun hHeld => ?_)
            · exact HS3.out
            clear hK K
            try simp only [Act.put, List.setIfInBounds_toArray, List.set_cons_zero, List.set_cons_succ]
            refine wpAnyH_take (i := 4) (v := ?_) (iatLS (iatSS (iatSS (iatSS (iatSS iatZS))))) (by kernel_rfl) (by kernel_rfl) (by kernel_rfl) (fun _ _ _ h => h) (Or.inl ⟨by rfl, ?_⟩) (by assumption) ?_
            rotate_left
            · intro w hSw
              try dsimp only at hSw
              go_simp
              all_goals with_reducible rfl
            try simp only [Act.put, List.setIfInBounds_toArray, List.set_cons_zero, List.set_cons_succ]
            refine wpAnyH_take (i := 5) (v := ?_) (iatLS (iatSS (iatSS (iatSS (iatSS (iatSS iatZS)))))) (by kernel_rfl) (by kernel_rfl) (by kernel_rfl) (fun _ _ _ h => h) (Or.inl ⟨by rfl, ?_⟩) (by assumption) ?_
            rotate_left
            · intro w hSw
              try dsimp only at hSw
              go_simp
              all_goals with_reducible rfl
            try simp only [Act.put, List.setIfInBounds_toArray, List.set_cons_zero, List.set_cons_succ]
            refine wpAnyH_take (i := 6) (v := ?_) (iatLS (iatSS (iatSS (iatSS (iatSS (iatSS (iatSS iatZS))))))) (by kernel_rfl) (by kernel_rfl) (by kernel_rfl) (fun _ _ _ h => h) (Or.inl ⟨by rfl, ?_⟩) (by assumption) ?_
            rotate_left
            · intro w hSw
              try dsimp only at hSw
              go_simp
              all_goals with_reducible rfl
            try simp only [Act.put, List.setIfInBounds_toArray, List.set_cons_zero, List.set_cons_succ]
            refine wpAnyH_take (i := 7) (v := ?_) (iatLS (iatSS (iatSS (iatSS (iatSS (iatSS (iatSS (iatSS iatZS)))))))) (by kernel_rfl) (by kernel_rfl) (by kernel_rfl) (fun _ _ _ h => h) (Or.inl ⟨by rfl, ?_⟩) (by assumption) ?_
            rotate_left
            · intro w hSw
              try dsimp only at hSw
              go_simp
              all_goals with_reducible rfl
            try simp only [Act.put, List.setIfInBounds_toArray, List.set_cons_zero, List.set_cons_succ]
            refine wpAnyH_ready (rs := [9]) (by kernel_rfl) (by simp) ?_
            refine AllReadyH.cons (iatLS (iatSS (iatSS (iatSS (iatSS (iatSS (iatSS (iatSS (iatSS (iatSS iatZS)))))))))) (fun K hK => ?_) AllReadyH.nil
            have n0 := HN3.out.cell 0
            have n1 := HN3.out.cell 1
            have n2 := HN3.out.cell 2
            have n3 := HN3.out.cell 3
            have f0 := HN3.out.frozen 0
            have f1 := HN3.out.frozen 1
            have f2 := HN3.out.frozen 2
            have f3 := HN3.out.frozen 3
            have nl := HN3.out.lt
            simp only [List.getElem?_cons_zero, List.getElem?_cons_succ] at n0 n1 n2 n3
            go_simp
            have HF := HX.out.1 K3 nb HC3.out Hnc.out HN3.out
            have hb9 := Below.put4 HB3.out Hnb.out (.int .i64 tk) (.int .i64 ti) (.int .i64 ta) (.slice tga tn tgc)
            generalize World.setCell _ _ _ = K4 at HF hb9 ⊢
            have HF := Lib.hid HF
            have HB4 := Lib.hid hb9
            have HS4 : Hid (K4.cell? ⟨bx, 0, none⟩ = some (.slice xta T xtc) ∧ K4.cell? ⟨bx, 1, none⟩ = some (.slice xna N xnc) ∧ K4.cell? ⟨bx, 2, none⟩ = some (.slice xaa L xac) ∧ K4.cell? ⟨ty, 0, none⟩ = some (.int .i64 hk) ∧ K4.cell? ⟨ty, 1, none⟩ = some (.int .i64 hi) ∧ K4.cell? ⟨ty, 2, none⟩ = some (.int .i64 ha) ∧ K4.cell? ⟨ty, 3, none⟩ = some (.slice a KL cap)) := Lib.hid (⟨(HA6.out.below HB4.out HA6.out.lt).cell 0, (HA6.out.below HB4.out HA6.out.lt).cell 1, (HA6.out.below HB4.out HA6.out.lt).cell 2, (HT6.out.below HB4.out HT6.out.lt).cell 0, (HT6.out.below HB4.out HT6.out.lt).cell 1, (HT6.out.below HB4.out HT6.out.lt).cell 2, (HT6.out.below HB4.out HT6.out.lt).cell 3⟩)
            clear hb9 n0 n1 n2 n3 f0 f1 f2 f3 nl
            refine hK.out _ _ ?_ (fun hHeld => ?_)
            · exact HS4.out
            clear hK K
            try simp only [Act.put, List.setIfInBounds_toArray, List.set_cons_zero, List.set_cons_succ]
            refine wpAnyH_take (i := 10) (v := ?_) (iatLS (iatSS (iatSS (iatSS (iatSS (iatSS (iatSS (iatSS (iatSS (iatSS (iatSS iatZS))))))))))) (by kernel_rfl) (by kernel_rfl) (by kernel_rfl) (fun _ _ _ h => h) (Or.inl ⟨by rfl, ?_⟩) (by assumption) ?_
            rotate_left
            · intro w hSw
              try dsimp only at hSw
              go_simp
              all_goals with_reducible rfl
            try simp only [Act.put, List.setIfInBounds_toArray, List.set_cons_zero, List.set_cons_succ]
            refine wpAnyH_take (i := 11) (v := ?_) (iatLS (iatSS (iatSS (iatSS (iatSS (iatSS (iatSS (iatSS (iatSS (iatSS (iatSS (iatSS iatZS)))))))))))) (by kernel_rfl) (by kernel_rfl) (by kernel_rfl) (fun _ _ _ h => h) (Or.inl ⟨by rfl, ?_⟩) (by assumption) ?_
            rotate_left
            · intro w hSw
              try dsimp only at hSw
              go_simp
              all_goals with_reducible rfl
            try simp only [Act.put, List.setIfInBounds_toArray, List.set_cons_zero, List.set_cons_succ]
            refine wpAnyH_done (by kernel_rfl) ?_ _
            go_wp2_with (fail)
            go_meet
            exact ⟨nb, p, x, rfl, rfl, rfl, Lib.hid ⟨HB4.out, HF.out⟩⟩
      case rest =>
        obtain ⟨nb, p, x, rfl, rfl, rfl, hcut⟩ := hcut
        obtain ⟨hb, hbox⟩ := hcut.out
        obtain ⟨rfl, rfl, ga, gc, hblk, htr⟩ := hbox
        have HT7 := Lib.hid (HT6.out.below hb HT6.out.lt)
        have HF7 := Lib.hid (Hb6.out.trans (hb.mono Hb6.out.size))
        have htm := htr.le
        have htx := htr.max
        have hsm := refSameT_any (kids.size + 1) ⟨hk, hi, ha⟩ ⟨hk, hi, ha⟩ kids kids ga a gc cap wc _ _ (Nat.lt_succ_self _) htr (HI.out.grown HF7.out)
        rw [hdT_self, sameT_self] at hsm
        dsimp only at hblk htm
        rw [HKL.out] at hsm hblk htm
        dsimp only [treV] at hsm
        have Hsm := Lib.hid hsm
        have m0 := hblk.cell 0
        have m1 := hblk.cell 1
        have m2 := hblk.cell 2
        have m3 := hblk.cell 3
        have ml := hblk.lt
        have y0 := HT7.out.cell 0
        have y1 := HT7.out.cell 1
        have y2 := HT7.out.cell 2
        have y3 := HT7.out.cell 3
        have yl := HT7.out.lt
        simp only [List.getElem?_cons_zero, List.getElem?_cons_succ] at m0 m1 m2 m3 y0 y1 y2 y3
        clear hb hcut hblk htr hsm
        go_wp2_with (fail)
        refine Hsm.out.mono ?_
        rintro e9 w9 ⟨rfl, hb⟩
        have HF := Lib.hid (HF7.out.trans (hb.mono HF7.out.size))
        clear hb Hsm m0 m1 m2 m3 ml y0 y1 y2 y3 yl
        go_wp2_with (fail)
        exact bodyPost_ret (v := .bool true) (by simp [results, Try.results11, go_sem]; try first | rfl | assumption | omega) rfl ⟨rfl, HF.out⟩
end Go.Proofs.Ythogiakfbgehnaa

namespace Go.Proofs.Ythogiakfbgehnaa
open Go.ChangeShapes Go.WideShapes Go.ChangeAt Go.RowKit

/-- Each number of a node is an int's. -/
def TrF.bdK : TrF → Prop
  | .nil => True
  | .cons h kids rest => Bd h.k ∧ kids.bdK ∧ rest.bdK
theorem TrF.bd_pre (p : Bool) : ∀ (f : TrF) (d : Nat), f.bdK → ∀ x ∈ f.pre p d, Bd x.h.k := by
  intro f
  induction f with
  | nil => intro d _ x hx; cases hx
  | cons h kids rest ihk ihr =>
    rintro d ⟨h1, h2, h3⟩ x hx
    rw [TrF.pre_cons] at hx
    rcases List.mem_cons.1 hx with rfl | hx
    · exact h1
    · rcases List.mem_append.1 hx with hx | hx
      · unfold told at hx
        split at hx
        · cases hx
        · exact ihk _ h2 x hx
      · exact ihr _ h3 x hx
theorem tree_cells : Try.prog.cellsOf 51 = 4 := by kernel_rfl
theorem int_cellsT : Try.prog.cellsOf 3 = 1 := by kernel_rfl
theorem trees_cells : Try.prog.cellsOf 49 = 1 := by kernel_rfl

/-- The elements of a slice, each of which reads as a tree, read as a list of trees. -/
theorem elems_ofT {W : World} {b off : Nat} : ∀ (m : Nat) (i : Nat), (∀ j, i ≤ j → j < i + m → ∃ (hd : TrH) (xa : Option Addr) (n xcap : Nat) (ks : TrF), W.cell? ⟨b, off + j * 4, none⟩ = some (.int .i64 hd.k) ∧ W.cell? ⟨b, off + j * 4 + 1, none⟩ = some (.int .i64 hd.i) ∧ W.cell? ⟨b, off + j * 4 + 2, none⟩ = some (.int .i64 hd.a) ∧ W.cell? ⟨b, off + j * 4 + 3, none⟩ = some (.slice xa n xcap) ∧ n = ks.len ∧ TrS W (fun _ => True) xa xcap ks ∧ Bd hd.k ∧ ks.bdK) →
    ∃ f : TrF, f.len = m ∧ TrEl W (fun _ => True) f b (off + i * 4) ∧ f.bdK := by
  intro m
  induction m with
  | zero => intro i _; exact ⟨.nil, rfl, trivial, trivial⟩
  | succ m ih =>
    intro i h
    obtain ⟨rest, hl, he, hr⟩ := ih (i + 1) (fun j h1 h2 => h j (by omega) (by omega))
    obtain ⟨hd, xa, n, xcap, ks, c0, c1, c2, c3, rfl, hI, hk1, hk2⟩ := h i (Nat.le_refl _) (by omega)
    refine ⟨.cons hd ks rest, by simp [TrF.len, hl], ⟨c0, c1, c2, ⟨xa, xcap, c3, hI.le, hI.max, hI.nil_, hI.at_⟩, ?_⟩, hk1, hk2, hr⟩
    rw [show off + i * 4 + 4 = off + (i + 1) * 4 from by omega]
    exact he

set_option maxRecDepth 100000 in
theorem open_cellsT {H : Type} {enc : TypeId × Value → H} {W : World} {base : Nat} {sp : Nat → Bool} {hd : Bool} : ∀ (fuel : Nat) (cs : List Value) (x : DataW H × List MemPlace), DataW.trod enc Try.prog W base sp hd fuel 51 cs = some x →
    ∃ (h : TrH) (a : Option Addr) (n cap : Nat) (kids : TrF), cs = [.int .i64 h.k, .int .i64 h.i, .int .i64 h.a, .slice a n cap] ∧ n = kids.len ∧ TrS W (fun _ => True) a cap kids ∧ Bd h.k ∧ kids.bdK := by
  intro fuel
  induction fuel using Nat.strongRecOn with
  | _ fuel ih =>
    intro cs x h
    obtain ⟨xs, n, rfl, rfl, hl, hlen, hf⟩ := DataW.trod_struct Try.underlying51 h
    rw [tree_cells] at hl
    obtain ⟨v0, v1, v2, v3, rfl⟩ : ∃ v0 v1 v2 v3, cs = [v0, v1, v2, v3] := by
      match cs, hl with
      | [v0, v1, v2, v3], _ => exact ⟨v0, v1, v2, v3, rfl⟩
    obtain ⟨y0, y1, y2, y3, rfl⟩ : ∃ y0 y1 y2 y3, xs = [y0, y1, y2, y3] := by
      match xs, hlen with
      | [y0, y1, y2, y3], _ => exact ⟨y0, y1, y2, y3, rfl⟩
    have h0 := hf 0 _ rfl
    have h1 := hf 1 _ rfl
    have h2 := hf 2 _ rfl
    have h3 := hf 3 _ rfl
    simp only [int_cellsT, trees_cells, List.drop_zero, List.drop_succ_cons, List.take_succ_cons, List.take_zero, List.getElem?_cons_zero, List.getElem?_cons_succ] at h0 h1 h2 h3
    obtain ⟨k, e0, _, w0⟩ := DataW.trod_int Try.underlying3 h0
    obtain ⟨m, e1, _, _⟩ := DataW.trod_int Try.underlying3 h1
    obtain ⟨s, e2, _, _⟩ := DataW.trod_int Try.underlying3 h2
    injection e0 with e0 _
    injection e1 with e1 _
    injection e2 with e2 _
    subst e0 e1 e2
    have hbk : Bd k := wf_bd w0
    rcases DataW.trod_slice Try.underlying49 h3 with ⟨e3, _⟩ | ⟨a, len, cap, elems, rest, n', hn, e3, _, hb, hle, hm, hel, hcell, _, _⟩
    · injection e3 with e3 _
      subst e3
      exact ⟨⟨k, m, s⟩, none, 0, 0, .nil, rfl, rfl, TrS.nil W _, hbk, trivial⟩
    · injection e3 with e3 _
      subst e3
      have hmax : maxLen ≤ 9223372036854775807 := by decide
      have each : ∀ i, i < len → ∃ (hd : TrH) (xa : Option Addr) (n xcap : Nat) (ks : TrF), (∀ j, j < 4 → W.cell? ((a.add (i * 4)).add j) = [.int .i64 hd.k, .int .i64 hd.i, .int .i64 hd.a, .slice xa n xcap][j]?) ∧ n = ks.len ∧ TrS W (fun _ => True) xa xcap ks ∧ Bd hd.k ∧ ks.bdK := by
        intro i hi
        have hc := hcell i hi
        rw [List.getElem?_eq_getElem (by omega), tree_cells, Option.bind_eq_some_iff] at hc
        obtain ⟨cs', hcs, ht⟩ := hc
        obtain ⟨hd, xa, n2, xcap, ks, rfl, e, hI, hk1, hk2⟩ := ih n' (by omega) cs' _ ht
        exact ⟨hd, xa, n2, xcap, ks, fun j hj => (World.cells?_some hcs).2.2 j hj, e, hI, hk1, hk2⟩
      by_cases h0 : len = 0
      · subst h0
        exact ⟨⟨k, m, s⟩, some a, 0, cap, .nil, rfl, rfl, ⟨Nat.zero_le _, by omega, fun e => (by cases e), fun h => by simp [TrF.len] at h⟩, hbk, trivial⟩
      · obtain ⟨b, off, spot⟩ := a
        have hspot : spot = none := by
          obtain ⟨hd, xa, n2, xcap, ks, hc, _⟩ := each 0 (by omega)
          have := hc 0 (by omega)
          simpa [Addr.add] using World.cell?_spot this
        subst hspot
        obtain ⟨f, hfl, hfe, hfk⟩ := elems_ofT (W := W) (b := b) (off := off) len 0 (fun j _ h2 => by
          obtain ⟨hd, xa, n2, xcap, ks, hc, e, hI, hk1, hk2⟩ := each j (by omega)
          have hc' : ∀ q, q < 4 → W.cell? ⟨b, off + j * 4 + q, none⟩ = [.int .i64 hd.k, .int .i64 hd.i, .int .i64 hd.a, .slice xa n2 xcap][q]? := fun q hq => by
            have := hc q hq
            rwa [add_plain, add_plain] at this
          exact ⟨hd, xa, n2, xcap, ks, hc' 0 (by omega), hc' 1 (by omega), hc' 2 (by omega), hc' 3 (by omega), e, hI, hk1, hk2⟩)
        rw [Nat.zero_mul, Nat.add_zero] at hfe
        exact ⟨⟨k, m, s⟩, some ⟨b, off, none⟩, len, cap, f, rfl, hfl.symm, ⟨by omega, by omega, fun e => (by cases e), fun _ => ⟨b, off, rfl, trivial, hfe⟩⟩, hbk, hfk⟩

set_option maxRecDepth 100000 in
/-- A tree among the arguments. -/
theorem open_tree {H : Type} {enc : TypeId × Value → H} {W : World} {v : Value} {d : DataW H} {ps : List MemPlace} (hok : Value.okWide Try.prog W .any 0 51 v) (h : DataW.Trod enc Try.prog W 0 (fun _ => true) true 51 v d ps) :
    ∃ (hd : TrH) (a : Option Addr) (cap : Nat) (kids : TrF), v = treV hd a kids.len cap ∧ TrS W (fun _ => True) a cap kids ∧ (TrF.cons hd kids .nil).bdK := by
  obtain ⟨cs, rfl, _⟩ := okWide_struct Try.underlying51 hok
  obtain ⟨fuel, hf⟩ := h
  obtain ⟨hd, a, n, cap, kids, e, rfl, hI, hk1, hk2⟩ := open_cellsT fuel _ _ hf
  refine ⟨hd, a, cap, kids, ?_, hI, hk1, hk2, trivial⟩
  have : cs.toList = [.int .i64 hd.k, .int .i64 hd.i, .int .i64 hd.a, .slice a kids.len cap] := e
  cases cs
  simp only at this
  rw [this]
end Go.Proofs.Ythogiakfbgehnaa

namespace Go.Proofs.Ythogiakfbgehnaa
open Go.ChangeShapes Go.WideShapes Go.ChangeAt Go.RowKit

set_option maxRecDepth 100000 in
theorem treeBack_lifted (os : Os) (started : os.Started) (H : Type) (enc : TypeId × Value → H) :
    ReturnsInHanded {} Try.checked os 11 .any (Rows.treeBackSpec.pre6 enc Try.prog Try.f11 Rows.treeBackRow.domain false) (Rows.treeBackSpec.post enc Try.prog Try.f11 false true false false) := by
  refine returnsInHanded_of_change (C := Try.checked) Try.own started (by kernel_rfl) Try.func11
    (ChangeSpec.witness6 (enc := enc) (C := Try.checked) false ⟨#[], #[.agg #[.slice none 0 0, .slice none 0 0, .slice none 0 0], .agg #[.int .i64 0, .int .i64 0, .int .i64 0, .slice none 0 0]], []⟩ 8 (by kernel_rfl) (by kernel_rfl) (by kernel_rfl) (by kernel_rfl)) ?_
  intro W base args ds gs before hval0 hW _ _
  have hval : ∀ (j : Nat) t v, Try.f11.params[j]? = some t → args[j]? = some v → Value.okWide Try.prog W .any base t v := hval0
  have hW' := hW
  obtain ⟨p, q, hA0, hV, rfl, hfz, hnd⟩ := hW
  have hA : DataW.TrodAll enc Try.prog W 0 (fun _ => true) true Try.f11.params.toList args.toList ds p := hA0
  rw [Try.params11] at hA hval
  obtain ⟨v0, v1, d0, d1, p0, p1, rfl, rfl, rfl, h0, h1⟩ := trodAll_two hA
  obtain ⟨c, rfl, hc, _, _, z3, _⟩ := open_cfg2 (hval 0 25 v0 rfl rfl) h0
  obtain ⟨hd, a, cap, kids, rfl, hI, hB⟩ := open_tree (hval 1 51 v1 rfl rfl) h1
  refine (lawBack13_any c hd kids a cap W hc z3 hI (fun x hx => (TrF.bd_pre true _ 1 hB x hx).1)).mono fun e W' ⟨he, hw⟩ => ?_
  subst he
  exact ⟨_, rfl, law_post hW' rfl rfl (by kernel_rfl) (by rw [Try.params11]; intro t ht; simp at ht; rcases ht with rfl | rfl <;> exact ⟨by kernel_rfl, of_decide_eq_true (by kernel_rfl)⟩) hw⟩

theorem treeBack_holds : Rows.TreeBackSaid :=
  OpenClaim.holds_of_wide 11 Try.f11 rfl rfl rfl rfl rfl rfl rfl ⟨rfl, rfl, rfl, rfl, rfl⟩ rfl rfl rfl rfl rfl (by kernel_rfl) Try.func11 (by kernel_rfl)
    (of_decide_eq_true (by kernel_rfl)) (by unfold Func.isWrapper; first | (rw [if_pos (by decide +kernel)]; kernel_rfl) | (rw [if_neg (by decide +kernel)]; exact ⟨rfl, rfl⟩))
    (fun os started H enc _ => treeBack_lifted os started H enc)
end Go.Proofs.Ythogiakfbgehnaa

