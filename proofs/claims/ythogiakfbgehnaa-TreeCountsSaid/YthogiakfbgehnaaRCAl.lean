/- The row TreeCounts: for every grammar by numbers and all steps: a derivation that Grow makes has as many nodes as tokens and steps together, and as many steps as were given: the law answers true and changes nothing that was there; no premise beyond the row's own. -/
/- Texts joined: Tte Ttf Kk Wp PTc Ty. -/
import Derived.Test.YthogiakfbgehnaaRCAb
import Derived.Test.YthogiakfbgehnaaRCAk
import Derived.IntWalk
import Derived.Test.YthogiakfbgehnaaRCAa
import Derived.Test.YthogiakfbgehnaaRCAc
set_option linter.unusedVariables false
set_option linter.unusedSimpArgs false
namespace Go.Proofs.Ythogiakfbgehnaa
open Go.RowKit

attribute [local go_sem] Oper.semAt_some

/-- Some answer; what was there is as it was. -/
def SomeBT (w : World) (e : Ending) (w' : World) : Prop := ∃ b, e = .returned (.bool b) ∧ Below w.heap.size w w'
set_option maxRecDepth 100000 in
set_option maxHeartbeats 4000000 in
theorem refFewA_any (m9 : Int) (d : CfD) (w : World) (hd : CfAt w d) :
    Calls Try.prog 50 #[d.v, .int .i64 m9] w (SomeBT w) := by
  obtain ⟨toks, dta, dtc, names, dna, dnc, al, daa, dac⟩ := d
  dsimp only [CfD.v]
  have hA0 := Blk.new w 25 #[.slice dta toks.length dtc, .slice dna names.length dnc, .slice daa al.length dac]
  have hb0 : Below w.heap.size w (w.alloc (.cells #[.slice dta toks.length dtc, .slice dna names.length dnc, .slice daa al.length dac] 25)) := (Below.refl _ w).alloc (Nat.le_refl _) _
  have hRow := Lib.hid (hd.alts.grown hb0)
  have hRul := Lib.hid (fun r hr => (hd.rules r hr).grown hb0)
  have ham : al.length ≤ dac ∧ dac ≤ 9223372036854775807 := ⟨by have := hd.alts.le; rwa [List.length_map] at this, hd.alts.max⟩
  obtain ⟨M, hM⟩ : ∃ q, Hid (toks.length = q) := ⟨_, Lib.hid rfl⟩
  obtain ⟨N, hN⟩ : ∃ q, Hid (names.length = q) := ⟨_, Lib.hid rfl⟩
  obtain ⟨A, hA⟩ : ∃ q, Hid (al.length = q) := ⟨_, Lib.hid rfl⟩
  rw [hM.out, hN.out, hA.out] at hA0 hb0 hRow hRul ⊢
  rw [hA.out] at ham
  have y0 := hA0.cell 0
  have y1 := hA0.cell 1
  have y2 := hA0.cell 2
  have yl := hA0.lt
  simp only [List.getElem?_cons_zero, List.getElem?_cons_succ] at y0 y1 y2
  have HB0 := Lib.hid hb0
  clear hd hA0 hb0
  go_enter Try.func50, Try.ntmps50
  go_wp2_with (fail)
  generalize hV : World.alloc w _ = W at hRow hRul HB0 y0 y1 y2 yl ⊢
  clear hV y0 y1 y2 yl
  go_loopw [5, 20] (fun s iv wr => ∃ (k : Nat) (z : Int), k ≤ A ∧ iv = .int .i64 (k : Int) ∧ s = .int .i64 z ∧ wr = W) (fun _ iv _ => A - (RowKit.intOf iv).toNat)
  case atStart => exact ⟨0, _, Nat.zero_le _, rfl, rfl, rfl⟩
  case round =>
    obtain ⟨k, z, hk, rfl, rfl, hwr⟩ := hrel
    subst hwr
    by_cases hlt : k < A
    · have hkI : (k : Int) < (A : Int) := by omega
      have hkI0 : (0 : Int) ≤ (k : Int) := by omega
      have hka : k < al.length := by rw [hA.out]; exact hlt
      obtain ⟨b2, o2, rfl⟩ := hRow.out.at_ k (by rw [List.length_map]; exact hka)
      have d0 := hRow.out.cell b2 o2 rfl k (by rw [List.length_map]; exact hka)
      rw [List.getElem_map] at d0
      have hIq := hRul.out _ (List.getElem_mem hka)
      obtain ⟨q, hq⟩ : ∃ v, Hid (al[k] = v) := ⟨_, Lib.hid rfl⟩
      rw [hq.out] at d0 hIq
      unfold IrD.v at d0
      obtain ⟨qds, qa, qc⟩ := q
      dsimp only at d0 hIq
      obtain ⟨E, hE⟩ : ∃ q, Hid (qds.length = q) := ⟨_, Lib.hid rfl⟩
      rw [hE.out] at d0
      have hem : E ≤ qc ∧ qc ≤ 9223372036854775807 := ⟨by have := hIq.row.le; rwa [List.length_map, hE.out] at this, hIq.row.max⟩
      have HI := Lib.hid hIq
      have hbl := World.block_lt_of_cell? _ _ d0
      clear hIq
      go_wp2_with (fail)
      clear d0 hbl
      obtain ⟨W8, rfl⟩ : ∃ W8, W8 = wr := ⟨_, rfl⟩
      go_loopw [5, 26] (fun s iv wr => ∃ (j : Nat) (z : Int), j ≤ E ∧ iv = .int .i64 (j : Int) ∧ s = .int .i64 z ∧ wr = W8) (fun _ iv _ => E - (RowKit.intOf iv).toNat)
      case atStart => exact ⟨0, z, Nat.zero_le _, rfl, rfl, rfl⟩
      case round =>
        obtain ⟨j, z2, hj, rfl, rfl, hwr⟩ := hrel
        subst hwr
        by_cases hlt2 : j < E
        · have hjI : (j : Int) < (E : Int) := by omega
          have hjI0 : (0 : Int) ≤ (j : Int) := by omega
          have hje : j < qds.length := by rw [hE.out]; exact hlt2
          obtain ⟨b4, o4, rfl⟩ := HI.out.row.at_ j (by rw [List.length_map]; exact hje)
          have f0 := HI.out.row.cell b4 o4 rfl j (by rw [List.length_map]; exact hje)
          rw [List.getElem_map] at f0
          unfold IltD.v at f0
          obtain ⟨u, hu⟩ : ∃ q, Hid (qds[j].l.length = q) := ⟨_, Lib.hid rfl⟩
          rw [hu.out] at f0
          generalize qds[j].a = ua at f0
          generalize qds[j].c = uc at f0
          have hbl := World.block_lt_of_cell? _ _ f0
          go_wp2_with (fail)
          all_goals first
            | exact bodyPost_ret (v := .bool false) (by simp [results, Try.results50, go_sem]; try first | rfl | assumption | omega) rfl ⟨false, rfl, HB0.out⟩
            | exact ⟨⟨j + 1, _, by omega, by go_num, rfl, by first | rfl | trivial⟩, by simp [RowKit.intOf]; omega⟩
        · obtain rfl : j = E := by omega
          have hjI : ¬ (j : Int) < (j : Int) := by omega
          go_wp2_with (fail)
          exact ⟨⟨k + 1, z2, by omega, by go_num, rfl, by first | rfl | trivial⟩, by simp [RowKit.intOf]; omega⟩
    · obtain rfl : k = A := by omega
      have hkI : ¬ (k : Int) < (k : Int) := by omega
      by_cases hle : z ≤ m9
      · go_wp2_with (fail)
        exact bodyPost_ret (v := .bool true) (by simp [results, Try.results50, go_sem]; try first | rfl | assumption | omega) rfl ⟨true, rfl, HB0.out⟩
      · go_wp2_with (fail)
        exact bodyPost_ret (v := .bool false) (by simp [results, Try.results50, go_sem]; try first | rfl | assumption | omega) rfl ⟨false, rfl, HB0.out⟩
end Go.Proofs.Ythogiakfbgehnaa

namespace Go.Proofs.Ythogiakfbgehnaa
open Go.RowKit Go.Maps

attribute [local go_sem] Oper.semAt_some

/-- What Grow answers, told for a law. -/
theorem grow_law (d : CfD) (sa : Option Addr) (sc : Nat) (st : List Int) (w : World) (hd : CfAt w d) (hrg : ∀ r ∈ d.alts, ∀ a ∈ r.ds, ∀ x ∈ a.l, -9223372036854775808 ≤ x ∧ x ≤ 9223372036854775807) (hst : Ints w sa sc st) :
    Calls Try.prog 54 #[d.v, .slice sa st.length sc] w fun e W => Below w.heap.size w W ∧ ((∃ (s : Nat) (x : Int), x ≠ 0 ∧ gwGrow d st = .bad s x ∧ e = .returned (.tuple #[.agg #[.int .i64 0, .int .i64 0, .int .i64 0, .slice none 0 0], .int .i64 (s : Int), .int .i64 x])) ∨
      (∃ t s a n ga gc, gwGrow d st = .ok t s a n ∧ e = .returned (.tuple #[.agg #[.int .i64 t.k, .int .i64 t.i, .int .i64 t.a, .slice ga t.l.len gc], .int .i64 0, .int .i64 0]) ∧ TrS W (fun g => w.heap.size ≤ g) ga gc t.l)) := by
  refine (tgrow_any d sa sc st w hd hrg hst).mono ?_
  rintro e W ⟨hb, hq⟩
  refine ⟨hb, ?_⟩
  cases hg : gwGrow d st with
  | bad s x =>
    rw [hg] at hq
    exact .inl ⟨s, x, hq.1, rfl, hq.2⟩
  | ok t s a n =>
    rw [hg] at hq
    obtain ⟨ga, gc, he, ht⟩ := hq
    exact .inr ⟨t, s, a, n, ga, gc, rfl, he, ht⟩
set_option maxRecDepth 100000 in
set_option maxHeartbeats 16000000 in
theorem lawCounts13_any (d : CfD) (sa : Option Addr) (sc : Nat) (st : List Int) (w : World) (hd : CfAt w d) (hrg : ∀ r ∈ d.alts, ∀ a ∈ r.ds, ∀ x ∈ a.l, -9223372036854775808 ≤ x ∧ x ≤ 9223372036854775807) (hst : Ints w sa sc st) :
    Calls Try.prog 14 #[d.v, .slice sa st.length sc] w fun e w' => e = .returned (.bool true) ∧ Below w.heap.size w w' := by
  have hsm : st.length ≤ sc ∧ sc ≤ 9223372036854775807 := ⟨by have := hst.le; rwa [List.length_map] at this, hst.max⟩
  have HFw := Lib.hid (fun V (hV : Below w.heap.size w V) => refFewA_any 300 d V (hd.grown hV))
  have HGr := Lib.hid (fun V (hV : Below w.heap.size w V) => grow_law d sa sc st V (hd.grown hV) hrg (hst.grown hV))
  obtain ⟨xta, hxta⟩ : ∃ q, Hid (d.ta = q) := ⟨_, Lib.hid rfl⟩
  obtain ⟨xna, hxna⟩ : ∃ q, Hid (d.na = q) := ⟨_, Lib.hid rfl⟩
  obtain ⟨xaa, hxaa⟩ : ∃ q, Hid (d.aa = q) := ⟨_, Lib.hid rfl⟩
  obtain ⟨xtc, hxtc⟩ : ∃ q, Hid (d.tc = q) := ⟨_, Lib.hid rfl⟩
  obtain ⟨xnc, hxnc⟩ : ∃ q, Hid (d.nc = q) := ⟨_, Lib.hid rfl⟩
  obtain ⟨xac, hxac⟩ : ∃ q, Hid (d.ac = q) := ⟨_, Lib.hid rfl⟩
  obtain ⟨T, HT⟩ : ∃ q, Hid (d.toks.length = q) := ⟨_, Lib.hid rfl⟩
  obtain ⟨N, HN⟩ : ∃ q, Hid (d.names.length = q) := ⟨_, Lib.hid rfl⟩
  obtain ⟨L, HL⟩ : ∃ q, Hid (d.alts.length = q) := ⟨_, Lib.hid rfl⟩
  have hdv : d.v = .agg #[.slice xta T xtc, .slice xna N xnc, .slice xaa L xac] := by unfold CfD.v; rw [hxta.out, hxna.out, hxaa.out, hxtc.out, hxnc.out, hxac.out, HT.out, HN.out, HL.out]
  rw [hdv] at HFw HGr ⊢
  obtain ⟨S, HS⟩ : ∃ q, Hid (st.length = q) := ⟨_, Lib.hid rfl⟩
  rw [HS.out] at hsm HGr ⊢
  have hb1 : Below w.heap.size w (w.alloc (.cells #[.slice xta T xtc, .slice xna N xnc, .slice xaa L xac] 25)) := (Below.refl _ w).alloc (Nat.le_refl _) _
  have HA1 := Lib.hid (Blk.new w 25 #[.slice xta T xtc, .slice xna N xnc, .slice xaa L xac])
  have Hb1 := Lib.hid hb1
  clear hb1 hd hrg hst hdv hxta hxna hxaa hxtc hxnc hxac
  go_enter Try.func14, Try.ntmps14
  go_wp2_with (fail)
  obtain ⟨bx, hbx⟩ : ∃ q, Hid (w.heap.size = q) := ⟨_, Lib.hid rfl⟩
  rw [hbx.out] at HA1 ⊢
  generalize hV : World.alloc w _ = V1 at HA1 Hb1 ⊢
  clear hV
  refine (live13_any V1).mono ?_
  rintro e w2 ⟨rfl, hb⟩
  have HA2 := Lib.hid (HA1.out.below hb HA1.out.lt)
  have Hb2 := Lib.hid (Hb1.out.trans (hb.mono Hb1.out.size))
  clear hb
  have x0 := HA2.out.cell 0
  have x1 := HA2.out.cell 1
  have x2 := HA2.out.cell 2
  have xl := HA2.out.lt
  simp only [List.getElem?_cons_zero, List.getElem?_cons_succ] at x0 x1 x2
  go_wp2_with (fail)
  refine (HFw.out w2 Hb2.out).mono ?_
  rintro e w3 ⟨b, rfl, hb⟩
  have HA3 := Lib.hid (HA2.out.below hb HA2.out.lt)
  have Hb3 := Lib.hid (Hb2.out.trans (hb.mono Hb2.out.size))
  clear hb x0 x1 x2 xl HFw
  cases b with
  | false =>
    go_wp2_with (fail)
    exact bodyPost_ret (v := .bool true) (by simp [results, Try.results14, go_sem]; try first | rfl | assumption | omega) rfl ⟨rfl, Hb3.out⟩
  | true =>
    by_cases h200 : 200 < S
    · have h2I : (200 : Int) < (S : Int) := by omega
      go_wp2_with (fail)
      exact bodyPost_ret (v := .bool true) (by simp [results, Try.results14, go_sem]; try first | rfl | assumption | omega) rfl ⟨rfl, Hb3.out⟩
    have h2I : ¬ (200 : Int) < (S : Int) := by omega
    have x0 := HA3.out.cell 0
    have x1 := HA3.out.cell 1
    have x2 := HA3.out.cell 2
    have xl := HA3.out.lt
    simp only [List.getElem?_cons_zero, List.getElem?_cons_succ] at x0 x1 x2
    go_wp2_with (fail)
    refine (HGr.out w3 Hb3.out).mono ?_
    rintro e w4 ⟨hb, hq⟩
    have HA4 := Lib.hid (HA3.out.below hb HA3.out.lt)
    have Hb4 := Lib.hid (Hb3.out.trans (hb.mono Hb3.out.size))
    have Hq4 := Lib.hid hb
    clear hb x0 x1 x2 xl HGr
    rcases hq with ⟨s, x, hx, -, rfl⟩ | ⟨t, s, a, n, ga, gc, hg, rfl, ht⟩
    · have hxn : (x != 0) = true := by rw [bne_iff_ne]; exact hx
      have HF := Lib.hid (Hb4.out.alloc Hb4.out.size (.cells #[.int .i64 0, .int .i64 0, .int .i64 0, .slice none 0 0] 51))
      go_wp2_with (fail)
      exact bodyPost_ret (v := .bool true) (by simp [results, Try.results14, go_sem]; try first | rfl | assumption | omega) rfl ⟨rfl, HF.out⟩
    obtain ⟨hgw, hse⟩ := grow_t hg
    have hsz := good_size hgw.gd
    have hst2 : (t.con .nil).st.length = S := by
      rw [hgw.st, hse, Nat.sub_zero, List.drop_zero, List.take_of_length_le (Nat.le_refl _), HS.out]
    have hmx : (t.con .nil).size ≤ 20000 := by have := hgw.sz; omega
    obtain ⟨tk, ti, ta, tl⟩ := t
    have ec : (Tre.con ⟨tk, ti, ta, tl⟩ .nil) = .cons ⟨tk, ti, ta⟩ tl .nil := rfl
    rw [ec] at hsz hst2 hmx
    have hs9 : (TrF.cons ⟨tk, ti, ta⟩ tl .nil).size = tl.size + 1 := by simp only [TrF.size, Nat.add_zero]
    rw [hs9] at hsz hmx
    dsimp only at ht ⊢
    have htl := ht.imp (Q := fun _ => True) (fun _ _ _ => trivial)
    have htm := htl.le
    have htx := htl.max
    have HSz0 := fun V (hV : Below w4.heap.size w4 V) => tsize_any ⟨tk, ti, ta⟩ tl ga gc V (htl.grown hV) (by omega)
    have HYd0 : ∀ V, Below w4.heap.size w4 V → Calls Try.prog 53 #[treV ⟨tk, ti, ta⟩ ga tl.len gc] V fun e w' => ∃ ra rc, e = .returned (.slice ra (TrF.yt (.cons ⟨tk, ti, ta⟩ tl .nil)).length rc) ∧ Below V.heap.size V w' := fun V hV => (tyield_any ⟨tk, ti, ta⟩ tl ga gc V (htl.grown hV) (by omega)).mono (fun e w' h => by obtain ⟨ra, rc, he, _, hb⟩ := h; exact ⟨ra, rc, he, hb⟩)
    have HSt0 : ∀ V, Below w4.heap.size w4 V → Calls Try.prog 55 #[treV ⟨tk, ti, ta⟩ ga tl.len gc] V fun e w' => ∃ ra rc, e = .returned (.slice ra (TrF.st (.cons ⟨tk, ti, ta⟩ tl .nil)).length rc) ∧ Below V.heap.size V w' := fun V hV => (tsteps_any ⟨tk, ti, ta⟩ tl ga gc V (htl.grown hV) (by omega)).mono (fun e w' h => by obtain ⟨ra, rc, he, _, hb⟩ := h; exact ⟨ra, rc, he, hb⟩)
    obtain ⟨Z, hZ⟩ : ∃ q, Hid (tl.size + 1 = q) := ⟨_, Lib.hid rfl⟩
    obtain ⟨Y, hY⟩ : ∃ q, Hid ((TrF.yt (.cons ⟨tk, ti, ta⟩ tl .nil)).length = q) := ⟨_, Lib.hid rfl⟩
    obtain ⟨TL, hTL⟩ : ∃ q, Hid (tl.len = q) := ⟨_, Lib.hid rfl⟩
    rw [hZ.out] at HSz0 hsz hmx
    rw [hY.out] at HYd0 hsz
    rw [hst2] at HSt0 hsz
    rw [hTL.out] at HSz0 HYd0 HSt0 htm ⊢
    dsimp only [treV] at HSz0 HYd0 HSt0
    have HSz1 := Lib.hid HSz0
    have HYd1 := Lib.hid HYd0
    have HSt1 := Lib.hid HSt0
    have hsl : Z ≤ Y + S ∧ Y + S ≤ Z := ⟨by omega, by omega⟩
    clear HSz0 HYd0 HSt0 ht htl hg hgw hse hst2 ec hs9 hsz HS
    go_upto_region 7 with fail
    have hb : Below w4.heap.size w4 (w4.alloc (.cells #[.int .i64 tk, .int .i64 ti, .int .i64 ta, .slice ga TL gc] 51)) := (Below.refl _ _).alloc (Nat.le_refl _) _
    have HX := Lib.hid (Blk.new w4 51 #[.int .i64 tk, .int .i64 ti, .int .i64 ta, .slice ga TL gc])
    have Hb5 := Lib.hid (Hb4.out.trans (hb.mono Hb4.out.size))
    have Hq5 := Lib.hid hb
    obtain ⟨tb, htb⟩ : ∃ q, Hid (w4.heap.size = q) := ⟨_, Lib.hid rfl⟩
    have htb2 := htb.out
    clear hb
    rw [htb2] at HX ⊢
    generalize World.alloc w4 _ = w5 at HX Hb5 Hq5 ⊢
    clear htb2
    have HSz := Lib.hid (fun V (hV : Below w5.heap.size w5 V) => HSz1.out V (Hq5.out.trans (hV.mono Hq5.out.size)))
    have HYd := Lib.hid (fun V (hV : Below w5.heap.size w5 V) => HYd1.out V (Hq5.out.trans (hV.mono Hq5.out.size)))
    have HSt := Lib.hid (fun V (hV : Below w5.heap.size w5 V) => HSt1.out V (Hq5.out.trans (hV.mono Hq5.out.size)))
    clear HSz1 HYd1 HSt1
    have HB0 := Lib.hid ((Below.refl w5.heap.size w5).drew)
    have HS0 : Hid ((w5.drew).cell? ⟨tb, 0, none⟩ = some (.int .i64 tk) ∧ (w5.drew).cell? ⟨tb, 1, none⟩ = some (.int .i64 ti) ∧ (w5.drew).cell? ⟨tb, 2, none⟩ = some (.int .i64 ta) ∧ (w5.drew).cell? ⟨tb, 3, none⟩ = some (.slice ga TL gc)) := Lib.hid ⟨(HX.out.below HB0.out HX.out.lt).cell 0, (HX.out.below HB0.out HX.out.lt).cell 1, (HX.out.below HB0.out HX.out.lt).cell 2, (HX.out.below HB0.out HX.out.lt).cell 3⟩
    refine wp_region_held_drew (S := fun w' => w'.cell? ⟨tb, 0, none⟩ = some (.int .i64 tk) ∧ w'.cell? ⟨tb, 1, none⟩ = some (.int .i64 ti) ∧ w'.cell? ⟨tb, 2, none⟩ = some (.int .i64 ta) ∧ w'.cell? ⟨tb, 3, none⟩ = some (.slice ga TL gc)) (by kernel_rfl) ?_ (fun hHeld => ?_)
    · exact HS0.out
    generalize World.drew w5 = K0 at HB0 HS0 hHeld ⊢
    refine wpAnyH_take (i := 0) (v := ?_) (iatLS iatZS) (by kernel_rfl) (by kernel_rfl) (by kernel_rfl) (fun _ _ _ h => h) (Or.inl ⟨by rfl, ?_⟩) (by assumption) ?_
    rotate_left
    · intro w hSw
      try dsimp only at hSw
      go_simp
      all_goals with_reducible rfl
    try simp only [Act.put, List.setIfInBounds_toArray, List.set_cons_zero, List.set_cons_succ]
    refine wpAnyH_take (i := 1) (v := ?_) (iatLS (iatSS iatZS)) (by kernel_rfl) (by kernel_rfl) (by kernel_rfl) (fun _ _ _ h => h) (Or.inl ⟨by rfl, ?_⟩) (by assumption) ?_
    rotate_left
    · intro w hSw
      try dsimp only at hSw
      go_simp
      all_goals with_reducible rfl
    try simp only [Act.put, List.setIfInBounds_toArray, List.set_cons_zero, List.set_cons_succ]
    refine wpAnyH_take (i := 2) (v := ?_) (iatLS (iatSS (iatSS iatZS))) (by kernel_rfl) (by kernel_rfl) (by kernel_rfl) (fun _ _ _ h => h) (Or.inl ⟨by rfl, ?_⟩) (by assumption) ?_
    rotate_left
    · intro w hSw
      try dsimp only at hSw
      go_simp
      all_goals with_reducible rfl
    try simp only [Act.put, List.setIfInBounds_toArray, List.set_cons_zero, List.set_cons_succ]
    refine wpAnyH_take (i := 4) (v := ?_) (iatLS (iatSS (iatSS (iatSS (iatSS iatZS))))) (by kernel_rfl) (by kernel_rfl) (by kernel_rfl) (fun _ _ _ h => h) (Or.inl ⟨by rfl, ?_⟩) (by assumption) ?_
    rotate_left
    · intro w hSw
      try dsimp only at hSw
      go_simp
      all_goals with_reducible rfl
    try simp only [Act.put, List.setIfInBounds_toArray, List.set_cons_zero, List.set_cons_succ]
    refine wpAnyH_take (i := 7) (v := ?_) (iatLS (iatSS (iatSS (iatSS (iatSS (iatSS (iatSS (iatSS iatZS)))))))) (by kernel_rfl) (by kernel_rfl) (by kernel_rfl) (fun _ _ _ h => h) (Or.inl ⟨by rfl, ?_⟩) (by assumption) ?_
    rotate_left
    · intro w hSw
      try dsimp only at hSw
      go_simp
      all_goals with_reducible rfl
    try simp only [Act.put, List.setIfInBounds_toArray, List.set_cons_zero, List.set_cons_succ]
    refine wpAnyH_ready (rs := [3]) (by kernel_rfl) (by simp) ?_
    refine AllReadyH.cons (iatLS (iatSS (iatSS (iatSS iatZS)))) (fun K hK => ?_) AllReadyH.nil
    go_simp
    refine (HSz.out K0 HB0.out).mono ?_
    rintro e9 K1 ⟨rfl, hb⟩
    have HB1 := Lib.hid (HB0.out.trans (hb.mono HB0.out.size))
    have HS1 : Hid (K1.cell? ⟨tb, 0, none⟩ = some (.int .i64 tk) ∧ K1.cell? ⟨tb, 1, none⟩ = some (.int .i64 ti) ∧ K1.cell? ⟨tb, 2, none⟩ = some (.int .i64 ta) ∧ K1.cell? ⟨tb, 3, none⟩ = some (.slice ga TL gc)) := Lib.hid ⟨(HX.out.below HB1.out HX.out.lt).cell 0, (HX.out.below HB1.out HX.out.lt).cell 1, (HX.out.below HB1.out HX.out.lt).cell 2, (HX.out.below HB1.out HX.out.lt).cell 3⟩
    clear hb 
    try dsimp only
    refine hK.out _ _ ?_ (fun hHeld => ?_)
    · exact HS1.out
    clear hK K
    try simp only [Act.put, List.setIfInBounds_toArray, List.set_cons_zero, List.set_cons_succ]
    refine wpAnyH_ready (rs := [5]) (by kernel_rfl) (by simp) ?_
    refine AllReadyH.cons (iatLS (iatSS (iatSS (iatSS (iatSS (iatSS iatZS)))))) (fun K hK => ?_) AllReadyH.nil
    go_simp
    refine (HYd.out K1 HB1.out).mono ?_
    rintro e9 K2 ⟨ya, yc, rfl, hb⟩
    have HB2 := Lib.hid (HB1.out.trans (hb.mono HB1.out.size))
    have HS2 : Hid (K2.cell? ⟨tb, 0, none⟩ = some (.int .i64 tk) ∧ K2.cell? ⟨tb, 1, none⟩ = some (.int .i64 ti) ∧ K2.cell? ⟨tb, 2, none⟩ = some (.int .i64 ta) ∧ K2.cell? ⟨tb, 3, none⟩ = some (.slice ga TL gc)) := Lib.hid ⟨(HX.out.below HB2.out HX.out.lt).cell 0, (HX.out.below HB2.out HX.out.lt).cell 1, (HX.out.below HB2.out HX.out.lt).cell 2, (HX.out.below HB2.out HX.out.lt).cell 3⟩
    clear hb 
    try dsimp only
    refine hK.out _ _ ?_ (fun hHeld => ?_)
    · exact HS2.out
    clear hK K
    try simp only [Act.put, List.setIfInBounds_toArray, List.set_cons_zero, List.set_cons_succ]
    refine wpAnyH_take (i := 6) (v := ?_) (iatLS (iatSS (iatSS (iatSS (iatSS (iatSS (iatSS iatZS))))))) (by kernel_rfl) (by kernel_rfl) (by kernel_rfl) (fun _ _ _ h => h) (Or.inl ⟨by rfl, ?_⟩) (by assumption) ?_
    rotate_left
    · intro w hSw
      try dsimp only at hSw
      go_simp
      all_goals with_reducible rfl
    try simp only [Act.put, List.setIfInBounds_toArray, List.set_cons_zero, List.set_cons_succ]
    refine wpAnyH_ready (rs := [8]) (by kernel_rfl) (by simp) ?_
    refine AllReadyH.cons (iatLS (iatSS (iatSS (iatSS (iatSS (iatSS (iatSS (iatSS (iatSS iatZS))))))))) (fun K hK => ?_) AllReadyH.nil
    go_simp
    refine (HSt.out K2 HB2.out).mono ?_
    rintro e9 K3 ⟨sa2, sc2, rfl, hb⟩
    have HB3 := Lib.hid (HB2.out.trans (hb.mono HB2.out.size))
    have HS3 : Hid (K3.cell? ⟨tb, 0, none⟩ = some (.int .i64 tk) ∧ K3.cell? ⟨tb, 1, none⟩ = some (.int .i64 ti) ∧ K3.cell? ⟨tb, 2, none⟩ = some (.int .i64 ta) ∧ K3.cell? ⟨tb, 3, none⟩ = some (.slice ga TL gc)) := Lib.hid ⟨(HX.out.below HB3.out HX.out.lt).cell 0, (HX.out.below HB3.out HX.out.lt).cell 1, (HX.out.below HB3.out HX.out.lt).cell 2, (HX.out.below HB3.out HX.out.lt).cell 3⟩
    clear hb 
    try dsimp only
    refine hK.out _ _ ?_ (fun hHeld => ?_)
    · exact HS3.out
    clear hK K
    try simp only [Act.put, List.setIfInBounds_toArray, List.set_cons_zero, List.set_cons_succ]
    refine wpAnyH_take (i := 9) (v := ?_) (iatLS (iatSS (iatSS (iatSS (iatSS (iatSS (iatSS (iatSS (iatSS (iatSS iatZS)))))))))) (by kernel_rfl) (by kernel_rfl) (by kernel_rfl) (fun _ _ _ h => h) (Or.inl ⟨by rfl, ?_⟩) (by assumption) ?_
    rotate_left
    · intro w hSw
      try dsimp only at hSw
      go_simp
      all_goals with_reducible rfl
    try simp only [Act.put, List.setIfInBounds_toArray, List.set_cons_zero, List.set_cons_succ]
    refine wpAnyH_ready (rs := [10]) (by kernel_rfl) (by simp) ?_
    refine AllReadyH.cons (iatLS (iatSS (iatSS (iatSS (iatSS (iatSS (iatSS (iatSS (iatSS (iatSS (iatSS iatZS))))))))))) (fun K hK => ?_) AllReadyH.nil
    have ha1 : ((Y : Int) + (S : Int)) ≤ 40000 := by omega
    have ha2 : IntKind.i64.wrap ((Y : Int) + (S : Int)) = (Y : Int) + (S : Int) := IntWalk.i64_in _ (by omega)
    have ha3 : wrap64 ((Y : Int) + (S : Int)) = (Y : Int) + (S : Int) := by unfold wrap64; omega
    go_simp
    refine hK.out _ _ ?_ (fun hHeld => ?_)
    · exact HS3.out
    clear hK K
    try simp only [Act.put, List.setIfInBounds_toArray, List.set_cons_zero, List.set_cons_succ]
    refine wpAnyH_ready (rs := [11]) (by kernel_rfl) (by simp) ?_
    refine AllReadyH.cons (iatLS (iatSS (iatSS (iatSS (iatSS (iatSS (iatSS (iatSS (iatSS (iatSS (iatSS (iatSS iatZS)))))))))))) (fun K hK => ?_) AllReadyH.nil
    have hq : ((Z : Int) == (Y : Int) + (S : Int)) = true := by rw [beq_iff_eq]; omega
    go_simp
    refine hK.out _ _ ?_ (fun hHeld => ?_)
    · exact HS3.out
    clear hK K
    try simp only [Act.put, List.setIfInBounds_toArray, List.set_cons_zero, List.set_cons_succ]
    refine wpAnyH_take (i := 12) (v := ?_) (iatLS (iatSS (iatSS (iatSS (iatSS (iatSS (iatSS (iatSS (iatSS (iatSS (iatSS (iatSS (iatSS iatZS))))))))))))) (by kernel_rfl) (by kernel_rfl) (by kernel_rfl) (fun _ _ _ h => h) (Or.inl ⟨by rfl, ?_⟩) (by assumption) ?_
    rotate_left
    · intro w hSw
      try dsimp only at hSw
      go_simp
      all_goals with_reducible rfl
    try simp only [Act.put, List.setIfInBounds_toArray, List.set_cons_zero, List.set_cons_succ]
    refine wpAnyH_take (i := 13) (v := ?_) (iatLS (iatSS (iatSS (iatSS (iatSS (iatSS (iatSS (iatSS (iatSS (iatSS (iatSS (iatSS (iatSS (iatSS iatZS)))))))))))))) (by kernel_rfl) (by kernel_rfl) (by kernel_rfl) (fun _ _ _ h => h) (Or.inl ⟨by rfl, ?_⟩) (by assumption) ?_
    rotate_left
    · intro w hSw
      try dsimp only at hSw
      go_simp
      all_goals with_reducible rfl
    try simp only [Act.put, List.setIfInBounds_toArray, List.set_cons_zero, List.set_cons_succ]
    refine wpAnyH_take (i := 14) (v := ?_) (iatLS (iatSS (iatSS (iatSS (iatSS (iatSS (iatSS (iatSS (iatSS (iatSS (iatSS (iatSS (iatSS (iatSS (iatSS iatZS))))))))))))))) (by kernel_rfl) (by kernel_rfl) (by kernel_rfl) (fun _ _ _ h => h) (Or.inl ⟨by rfl, ?_⟩) (by assumption) ?_
    rotate_left
    · intro w hSw
      try dsimp only at hSw
      go_simp
      all_goals with_reducible rfl
    try simp only [Act.put, List.setIfInBounds_toArray, List.set_cons_zero, List.set_cons_succ]
    refine wpAnyH_take (i := 17) (v := ?_) (iatLS (iatSS (iatSS (iatSS (iatSS (iatSS (iatSS (iatSS (iatSS (iatSS (iatSS (iatSS (iatSS (iatSS (iatSS (iatSS (iatSS (iatSS iatZS)))))))))))))))))) (by kernel_rfl) (by kernel_rfl) (by kernel_rfl) (fun _ _ _ h => h) (Or.inl ⟨by rfl, ?_⟩) (by assumption) ?_
    rotate_left
    · intro w hSw
      try dsimp only at hSw
      go_simp
      all_goals with_reducible rfl
    try simp only [Act.put, List.setIfInBounds_toArray, List.set_cons_zero, List.set_cons_succ]
    refine wpAnyH_take (i := 18) (v := ?_) (iatLS (iatSS (iatSS (iatSS (iatSS (iatSS (iatSS (iatSS (iatSS (iatSS (iatSS (iatSS (iatSS (iatSS (iatSS (iatSS (iatSS (iatSS (iatSS iatZS))))))))))))))))))) (by kernel_rfl) (by kernel_rfl) (by kernel_rfl) (fun _ _ _ h => h) (Or.inl ⟨by rfl, ?_⟩) (by assumption) ?_
    rotate_left
    · intro w hSw
      try dsimp only at hSw
      go_simp
      all_goals with_reducible rfl
    try simp only [Act.put, List.setIfInBounds_toArray, List.set_cons_zero, List.set_cons_succ]
    refine wpAnyH_ready (rs := [15]) (by kernel_rfl) (by simp) ?_
    refine AllReadyH.cons (iatLS (iatSS (iatSS (iatSS (iatSS (iatSS (iatSS (iatSS (iatSS (iatSS (iatSS (iatSS (iatSS (iatSS (iatSS (iatSS iatZS)))))))))))))))) (fun K hK => ?_) AllReadyH.nil
    go_simp
    refine (HSt.out K3 HB3.out).mono ?_
    rintro e9 K4 ⟨sa3, sc3, rfl, hb⟩
    have HB4 := Lib.hid (HB3.out.trans (hb.mono HB3.out.size))
    have HS4 : Hid (K4.cell? ⟨tb, 0, none⟩ = some (.int .i64 tk) ∧ K4.cell? ⟨tb, 1, none⟩ = some (.int .i64 ti) ∧ K4.cell? ⟨tb, 2, none⟩ = some (.int .i64 ta) ∧ K4.cell? ⟨tb, 3, none⟩ = some (.slice ga TL gc)) := Lib.hid ⟨(HX.out.below HB4.out HX.out.lt).cell 0, (HX.out.below HB4.out HX.out.lt).cell 1, (HX.out.below HB4.out HX.out.lt).cell 2, (HX.out.below HB4.out HX.out.lt).cell 3⟩
    clear hb 
    try dsimp only
    refine hK.out _ _ ?_ (fun hHeld => ?_)
    · exact HS4.out
    clear hK K
    try simp only [Act.put, List.setIfInBounds_toArray, List.set_cons_zero, List.set_cons_succ]
    refine wpAnyH_take (i := 16) (v := ?_) (iatLS (iatSS (iatSS (iatSS (iatSS (iatSS (iatSS (iatSS (iatSS (iatSS (iatSS (iatSS (iatSS (iatSS (iatSS (iatSS (iatSS iatZS))))))))))))))))) (by kernel_rfl) (by kernel_rfl) (by kernel_rfl) (fun _ _ _ h => h) (Or.inl ⟨by rfl, ?_⟩) (by assumption) ?_
    rotate_left
    · intro w hSw
      try dsimp only at hSw
      go_simp
      all_goals with_reducible rfl
    try simp only [Act.put, List.setIfInBounds_toArray, List.set_cons_zero, List.set_cons_succ]
    refine wpAnyH_ready (rs := [19]) (by kernel_rfl) (by simp) ?_
    refine AllReadyH.cons (iatLS (iatSS (iatSS (iatSS (iatSS (iatSS (iatSS (iatSS (iatSS (iatSS (iatSS (iatSS (iatSS (iatSS (iatSS (iatSS (iatSS (iatSS (iatSS (iatSS iatZS)))))))))))))))))))) (fun K hK => ?_) AllReadyH.nil
    have hq2 : ((S : Int) == (S : Int)) = true := by rw [beq_iff_eq]
    go_simp
    refine hK.out _ _ ?_ (fun hHeld => ?_)
    · exact HS4.out
    clear hK K
    try simp only [Act.put, List.setIfInBounds_toArray, List.set_cons_zero, List.set_cons_succ]
    refine wpAnyH_take (i := 20) (v := ?_) (iatLS (iatSS (iatSS (iatSS (iatSS (iatSS (iatSS (iatSS (iatSS (iatSS (iatSS (iatSS (iatSS (iatSS (iatSS (iatSS (iatSS (iatSS (iatSS (iatSS (iatSS iatZS))))))))))))))))))))) (by kernel_rfl) (by kernel_rfl) (by kernel_rfl) (fun _ _ _ h => h) (Or.inl ⟨by rfl, ?_⟩) (by assumption) ?_
    rotate_left
    · intro w hSw
      try dsimp only at hSw
      go_simp
      all_goals with_reducible rfl
    try simp only [Act.put, List.setIfInBounds_toArray, List.set_cons_zero, List.set_cons_succ]
    refine wpAnyH_take (i := 21) (v := ?_) (iatLS (iatSS (iatSS (iatSS (iatSS (iatSS (iatSS (iatSS (iatSS (iatSS (iatSS (iatSS (iatSS (iatSS (iatSS (iatSS (iatSS (iatSS (iatSS (iatSS (iatSS (iatSS iatZS)))))))))))))))))))))) (by kernel_rfl) (by kernel_rfl) (by kernel_rfl) (fun _ _ _ h => h) (Or.inl ⟨by rfl, ?_⟩) (by assumption) ?_
    rotate_left
    · intro w hSw
      try dsimp only at hSw
      go_simp
      all_goals with_reducible rfl
    try simp only [Act.put, List.setIfInBounds_toArray, List.set_cons_zero, List.set_cons_succ]
    refine wpAnyH_done (by kernel_rfl) ?_ _
    go_wp2_with (fail)
    exact bodyPost_ret (v := .bool true) (by simp [results, Try.results14, go_sem]; try first | rfl | assumption | omega) rfl ⟨rfl, Hb5.out.trans (HB4.out.mono Hb5.out.size)⟩
end Go.Proofs.Ythogiakfbgehnaa

namespace Go.Proofs.Ythogiakfbgehnaa
open Go.ChangeShapes Go.WideShapes Go.ChangeAt Go.RowKit

attribute [local go_sem] Oper.semAt_some

/-- What an int may be. -/
def Bd (x : Int) : Prop := -9223372036854775808 ≤ x ∧ x ≤ 9223372036854775807
theorem wf_bd {n : Int} (h : (Go.Lit.int .i64 n).wf = true) : Bd n := by
  unfold Bd
  simp [Go.Lit.wf, IntKind.min, IntKind.max, IntKind.signed, IntKind.bits] at h
  omega
theorem int_cells8 : Try.prog.cellsOf 3 = 1 := by kernel_rfl
theorem ints_cells8 : Try.prog.cellsOf 35 = 1 := by kernel_rfl
theorem intss_cells8 : Try.prog.cellsOf 32 = 1 := by kernel_rfl
theorem intsss_cells8 : Try.prog.cellsOf 23 = 1 := by kernel_rfl
theorem cfg_cells8 : Try.prog.cellsOf 25 = 3 := by kernel_rfl
def szIl (ds : List IltD) : Nat := (ds.map (fun d => d.l.length)).sum
theorem szIl_is (r : IrD) : r.ds.length + szIl r.ds = szJ r.p := by
  unfold szJ szIl IrD.p
  rw [List.length_map, List.map_map]
  rfl

set_option maxRecDepth 100000 in
theorem open_intl2 {H : Type} {enc : TypeId × Value → H} {W : World} {base : Nat} {sp : Nat → Bool} {hd : Bool} (fuel : Nat) (cs : List Value) (x : DataW H × List MemPlace) (h : DataW.trod enc Try.prog W base sp hd fuel 35 cs = some x) :
    ∃ d : IltD, cs = [.slice d.a d.l.length d.c] ∧ Ints W d.a d.c d.l ∧ (∀ n ∈ d.l, Bd n) ∧ d.l.length + 1 ≤ Rows.uptoBulk x.1 := by
  rcases DataW.trod_slice Try.underlying35 h with ⟨e3, _⟩ | ⟨a, len, cap, elems, rest, n', hn, e3, x3, hb, hle, hm, hel, hcell, _, _⟩
  · exact ⟨⟨[], none, 0⟩, by rw [e3]; rfl, Vs.nil W, fun n h => (by cases h), by simpa using bulk_pos x.1⟩
  · have hmax : maxLen ≤ 9223372036854775807 := by decide
    have hbk : len + 1 ≤ Rows.uptoBulk x.1 := by
      rw [x3]
      simp only [Rows.uptoBulk]
      have h1 := bulkAll_sum (elems.map (·.1))
      have h2 := sum_le8 (fun _ => 1) Rows.uptoBulk (elems.map (·.1)) (elems.map (·.1)) rfl (fun i h1 h2 => bulk_pos _)
      rw [sum_ones, List.length_map, hel] at h2
      omega
    have each : ∀ i, i < len → ∃ s : Int, W.cell? ((a.add (i * 1)).add 0) = some (.int .i64 s) ∧ Bd s := by
      intro i hi
      have hc := hcell i hi
      rw [List.getElem?_eq_getElem (by omega), int_cells8, Option.bind_eq_some_iff] at hc
      obtain ⟨cs', hcs, ht⟩ := hc
      obtain ⟨s, e0, _, ws0⟩ := DataW.trod_int Try.underlying3 ht
      have ws := wf_bd ws0
      subst e0
      exact ⟨s, (World.cells?_some hcs).2.2 0 (by omega), ws⟩
    by_cases h0 : len = 0
    · subst h0
      exact ⟨⟨[], some a, cap⟩, by rw [e3]; rfl, ⟨by simp, (show cap ≤ 9223372036854775807 by omega), fun e => (by cases e), fun i h => by simp at h, fun b off e i h => by simp at h⟩, fun n h => (by cases h), by simpa using bulk_pos x.1⟩
    · obtain ⟨b, off, spot⟩ := a
      have hspot : spot = none := by
        obtain ⟨s, hc, _⟩ := each 0 (by omega)
        simpa [Addr.add] using World.cell?_spot hc
      subst hspot
      have each2 : ∀ i, i < len → ∃ s : Int, W.cell? ⟨b, off + i, none⟩ = some (.int .i64 s) ∧ Bd s := by
        intro i hi
        obtain ⟨s, hc, hz⟩ := each i hi
        rw [add_plain, add_plain, Nat.mul_one, Nat.add_zero] at hc
        exact ⟨s, hc, hz⟩
      obtain ⟨l, hl1, hl2⟩ := row_of len each2
      refine ⟨⟨l, some ⟨b, off, none⟩, cap⟩, by rw [e3, hl1], ⟨by rw [List.length_map]; exact (show l.length ≤ cap by omega), (show cap ≤ 9223372036854775807 by omega), fun e => (by cases e), fun i _ => ⟨b, off, rfl⟩, fun b' off' e i hi => ?_⟩, fun n hn => ?_, by show l.length + 1 ≤ _; omega⟩
      · cases e
        rw [List.getElem_map]
        exact (hl2 i (by rwa [List.length_map] at hi)).1
      · obtain ⟨i, hi, rfl⟩ := List.getElem_of_mem hn
        exact (hl2 i hi).2

set_option maxRecDepth 100000 in
theorem open_intll2 {H : Type} {enc : TypeId × Value → H} {W : World} {base : Nat} {sp : Nat → Bool} {hd : Bool} (fuel : Nat) (cs : List Value) (x : DataW H × List MemPlace) (h : DataW.trod enc Try.prog W base sp hd fuel 32 cs = some x) :
    ∃ (ds : List IltD) (a : Option Addr) (c : Nat), cs = [.slice a ds.length c] ∧ AltsI W a c ds ∧ (∀ d ∈ ds, ∀ n ∈ d.l, Bd n) ∧ ds.length + szIl ds + 1 ≤ Rows.uptoBulk x.1 := by
  rcases DataW.trod_slice Try.underlying32 h with ⟨e3, _⟩ | ⟨a, len, cap, elems, rest, n', hn, e3, x3, hb, hle, hm, hel, hcell, _, _⟩
  · exact ⟨[], none, 0, by rw [e3]; rfl, ⟨Vs.nil W, fun d h => by cases h⟩, fun d h => (by cases h), by simpa [szIl] using bulk_pos x.1⟩
  · have hmax : maxLen ≤ 9223372036854775807 := by decide
    have each : ∀ i (hi : i < len), ∃ d : IltD, W.cell? ((a.add (i * 1)).add 0) = some d.v ∧ Ints W d.a d.c d.l ∧ (∀ n ∈ d.l, Bd n) ∧ d.l.length + 1 ≤ Rows.uptoBulk (elems[i]'(by omega)).1 := by
      intro i hi
      have hc := hcell i hi
      rw [List.getElem?_eq_getElem (by omega), ints_cells8, Option.bind_eq_some_iff] at hc
      obtain ⟨cs', hcs, ht⟩ := hc
      obtain ⟨d, rfl, hN, hz, hk⟩ := open_intl2 n' cs' _ ht
      exact ⟨d, (World.cells?_some hcs).2.2 0 (by omega), hN, hz, hk⟩
    by_cases h0 : len = 0
    · subst h0
      exact ⟨[], some a, cap, by rw [e3]; rfl, ⟨⟨by simp, by omega, fun e => (by cases e), fun i h => by simp at h, fun b off e i h => by simp at h⟩, fun d hd => by cases hd⟩, fun d h => (by cases h), by simpa [szIl] using bulk_pos x.1⟩
    · obtain ⟨b, off, spot⟩ := a
      have hspot : spot = none := by
        obtain ⟨s, hc, _⟩ := each 0 (by omega)
        simpa [Addr.add] using World.cell?_spot hc
      subst hspot
      obtain ⟨l, hl1, hl2, hl3⟩ := row_of2 (P := fun i (d : IltD) => W.cell? ⟨b, off + i, none⟩ = some d.v ∧ Ints W d.a d.c d.l ∧ ∀ n ∈ d.l, Bd n) (f := fun d : IltD => d.l.length + 1) (g := Rows.uptoBulk) (elems.map (·.1)) len (by rw [List.length_map, hel]) (fun i hi => by
        obtain ⟨d, hc, hN, hz, hk⟩ := each i (by rw [List.length_map] at hi; omega)
        rw [add_plain, add_plain, Nat.mul_one, Nat.add_zero] at hc
        exact ⟨d, ⟨hc, hN, hz⟩, by rw [List.getElem_map]; exact hk⟩)
      refine ⟨l, some ⟨b, off, none⟩, cap, by rw [e3, hl1], ⟨⟨by rw [List.length_map]; omega, by omega, fun e => (by cases e), fun i _ => ⟨b, off, rfl⟩, fun b' off' e i hi => ?_⟩, fun d hd => ?_⟩, fun d hd => ?_, ?_⟩
      · cases e
        rw [List.getElem_map]
        exact (hl2 i (by rwa [List.length_map] at hi)).1
      · obtain ⟨i, hi, rfl⟩ := List.getElem_of_mem hd
        exact (hl2 i hi).2.1
      · obtain ⟨i, hi, rfl⟩ := List.getElem_of_mem hd
        exact (hl2 i hi).2.2
      · rw [x3]
        simp only [Rows.uptoBulk]
        rw [bulkAll_sum (elems.map (·.1))]
        have h4 : (l.map (fun d : IltD => d.l.length + 1)).sum = l.length + szIl l := by
          clear hl1 hl2 hl3
          induction l with
          | nil => simp [szIl]
          | cons d l ih =>
            have e : szIl (d :: l) = d.l.length + szIl l := by simp [szIl]
            rw [List.map_cons, List.sum_cons, ih, e, List.length_cons]
            omega
        omega

set_option maxRecDepth 100000 in
theorem open_intlll2 {H : Type} {enc : TypeId × Value → H} {W : World} {base : Nat} {sp : Nat → Bool} {hd : Bool} (fuel : Nat) (cs : List Value) (x : DataW H × List MemPlace) (h : DataW.trod enc Try.prog W base sp hd fuel 23 cs = some x) :
    ∃ (al : List IrD) (a : Option Addr) (c : Nat), cs = [.slice a al.length c] ∧ Vs W a c (al.map IrD.v) ∧ (∀ r ∈ al, AltsI W r.a r.c r.ds) ∧ (∀ r ∈ al, ∀ d ∈ r.ds, ∀ n ∈ d.l, Bd n) ∧ al.length + szC (al.map IrD.p) + 1 ≤ Rows.uptoBulk x.1 := by
  rcases DataW.trod_slice Try.underlying23 h with ⟨e3, _⟩ | ⟨a, len, cap, elems, rest, n', hn, e3, x3, hb, hle, hm, hel, hcell, _, _⟩
  · exact ⟨[], none, 0, by rw [e3]; rfl, Vs.nil W, fun d h => (by cases h), fun d h => (by cases h), by simpa [szC] using bulk_pos x.1⟩
  · have hmax : maxLen ≤ 9223372036854775807 := by decide
    have each : ∀ i (hi : i < len), ∃ r : IrD, W.cell? ((a.add (i * 1)).add 0) = some r.v ∧ AltsI W r.a r.c r.ds ∧ (∀ d ∈ r.ds, ∀ n ∈ d.l, Bd n) ∧ szJ r.p + 1 ≤ Rows.uptoBulk (elems[i]'(by omega)).1 := by
      intro i hi
      have hc := hcell i hi
      rw [List.getElem?_eq_getElem (by omega), intss_cells8, Option.bind_eq_some_iff] at hc
      obtain ⟨cs', hcs, ht⟩ := hc
      obtain ⟨ds, ra, rc, rfl, hN, hz, hk⟩ := open_intll2 n' cs' _ ht
      have hk2 := szIl_is ⟨ds, ra, rc⟩
      dsimp only at hk2
      exact ⟨⟨ds, ra, rc⟩, (World.cells?_some hcs).2.2 0 (by omega), hN, hz, by omega⟩
    by_cases h0 : len = 0
    · subst h0
      exact ⟨[], some a, cap, by rw [e3]; rfl, ⟨by simp, by omega, fun e => (by cases e), fun i h => by simp at h, fun b off e i h => by simp at h⟩, fun d h => (by cases h), fun d h => (by cases h), by simpa [szC] using bulk_pos x.1⟩
    · obtain ⟨b, off, spot⟩ := a
      have hspot : spot = none := by
        obtain ⟨s, hc, _⟩ := each 0 (by omega)
        simpa [Addr.add] using World.cell?_spot hc
      subst hspot
      obtain ⟨l, hl1, hl2, hl3⟩ := row_of2 (P := fun i (r : IrD) => W.cell? ⟨b, off + i, none⟩ = some r.v ∧ AltsI W r.a r.c r.ds ∧ ∀ d ∈ r.ds, ∀ n ∈ d.l, Bd n) (f := fun r : IrD => szJ r.p + 1) (g := Rows.uptoBulk) (elems.map (·.1)) len (by rw [List.length_map, hel]) (fun i hi => by
        obtain ⟨d, hc, hN, hz, hk⟩ := each i (by rw [List.length_map] at hi; omega)
        rw [add_plain, add_plain, Nat.mul_one, Nat.add_zero] at hc
        exact ⟨d, ⟨hc, hN, hz⟩, by rw [List.getElem_map]; exact hk⟩)
      refine ⟨l, some ⟨b, off, none⟩, cap, by rw [e3, hl1], ⟨by rw [List.length_map]; omega, by omega, fun e => (by cases e), fun i _ => ⟨b, off, rfl⟩, fun b' off' e i hi => ?_⟩, fun d hd => ?_, fun d hd => ?_, ?_⟩
      · cases e
        rw [List.getElem_map]
        exact (hl2 i (by rwa [List.length_map] at hi)).1
      · obtain ⟨i, hi, rfl⟩ := List.getElem_of_mem hd
        exact (hl2 i hi).2.1
      · obtain ⟨i, hi, rfl⟩ := List.getElem_of_mem hd
        exact (hl2 i hi).2.2
      · rw [x3]
        simp only [Rows.uptoBulk]
        rw [bulkAll_sum (elems.map (·.1))]
        have h4 : (l.map (fun r : IrD => szJ r.p + 1)).sum = l.length + szC (l.map IrD.p) := by
          clear hl1 hl2 hl3
          induction l with
          | nil => simp [szC]
          | cons d l ih =>
            have e : szC ((d :: l).map IrD.p) = szJ d.p + szC (l.map IrD.p) := by simp [szC, szJ]
            rw [List.map_cons, List.sum_cons, ih, e, List.length_cons]
            omega
        omega

set_option maxRecDepth 100000 in
theorem open_cfg2 {H : Type} {enc : TypeId × Value → H} {W : World} {v : Value} {d : DataW H} {ps : List MemPlace} (hok : Value.okWide Try.prog W .any 0 25 v) (h : DataW.Trod enc Try.prog W 0 (fun _ => true) true 25 v d ps) :
    ∃ c : CfD, v = c.v ∧ CfAt W c ∧ (∀ t ∈ c.toks, t.size ≤ maxLen) ∧ (∀ t ∈ c.names, t.size ≤ maxLen) ∧ (∀ r ∈ c.alts, ∀ a ∈ r.ds, ∀ x ∈ a.l, Bd x) ∧ c.toks.length + c.names.length + szC (c.alts.map IrD.p) ≤ Rows.uptoBulk d := by
  obtain ⟨cs, rfl, _⟩ := okWide_struct Try.underlying25 hok
  obtain ⟨fuel, hf⟩ := h
  obtain ⟨xs, n, rfl, e9, hl, hlen, hf⟩ := DataW.trod_struct Try.underlying25 hf
  rw [cfg_cells8] at hl
  obtain ⟨v0, v1, v2, hv⟩ : ∃ v0 v1 v2, cs.toList = [v0, v1, v2] := by
    match hc : cs.toList, (show cs.toList.length = 3 from hl) with
    | [v0, v1, v2], _ => exact ⟨v0, v1, v2, rfl⟩
  obtain ⟨y0, y1, y2, rfl⟩ : ∃ y0 y1 y2, xs = [y0, y1, y2] := by
    match xs, hlen with
    | [y0, y1, y2], _ => exact ⟨y0, y1, y2, rfl⟩
  have h0 := hf 0 _ rfl
  have h1 := hf 1 _ rfl
  have h2 := hf 2 _ rfl
  rw [show (Value.agg cs).cells.toList = [v0, v1, v2] from hv] at h0 h1 h2
  simp only [strs_cells, intsss_cells8, List.drop_zero, List.drop_succ_cons, List.take_succ_cons, List.take_zero, List.getElem?_cons_zero, List.getElem?_cons_succ] at h0 h1 h2
  obtain ⟨dt, e0, hT, zT, kT⟩ := open_strl2 _ _ _ h0
  injection e0 with e0 _
  subst e0
  obtain ⟨dn, e1, hN, zN, kN⟩ := open_strl2 _ _ _ h1
  injection e1 with e1 _
  subst e1
  obtain ⟨al, aa, ac, e2, hR, hI, hB, hk⟩ := open_intlll2 _ _ _ h2
  injection e2 with e2 _
  subst e2
  have e9 := (Prod.mk.inj e9).1
  refine ⟨⟨dt.l, dt.a, dt.c, dn.l, dn.a, dn.c, al, aa, ac⟩, ?_, ⟨hT, hN, hR, hI⟩, zT, zN, hB, ?_⟩
  · cases cs
    simp only at hv
    rw [hv]
  · rw [e9]
    simp only [List.map_cons, List.map_nil, Rows.uptoBulk, Rows.uptoBulkAll]
    omega
end Go.Proofs.Ythogiakfbgehnaa

namespace Go.Proofs.Ythogiakfbgehnaa
open Go.ChangeShapes Go.WideShapes Go.ChangeAt Go.RowKit

set_option maxRecDepth 100000 in
theorem open_ints2 {H : Type} {enc : TypeId × Value → H} {W : World} {v : Value} {d : DataW H} {ps : List MemPlace} (hok : Value.okWide Try.prog W .any 0 35 v) (h : DataW.Trod enc Try.prog W 0 (fun _ => true) true 35 v d ps) :
    ∃ (a : Option Addr) (cap : Nat) (l : List Int), v = .slice a l.length cap ∧ Ints W a cap l ∧ (∀ n ∈ l, Bd n) := by
  obtain ⟨a0, len0, cap0, rfl⟩ := okWide_slice Try.underlying35 hok
  obtain ⟨fuel, hf⟩ := h
  obtain ⟨x, e, h1, h2, h3⟩ := open_intl2 fuel _ _ hf
  simp only [Value.cells, List.cons.injEq, and_true] at e
  exact ⟨x.a, x.c, x.l, e, h1, h2⟩
end Go.Proofs.Ythogiakfbgehnaa

namespace Go.Proofs.Ythogiakfbgehnaa
open Go.ChangeShapes Go.WideShapes Go.ChangeAt Go.RowKit

set_option maxRecDepth 100000 in
theorem treeCounts_lifted (os : Os) (started : os.Started) (H : Type) (enc : TypeId × Value → H) :
    ReturnsInHanded {} Try.checked os 14 .any (Rows.treeCountsSpec.pre6 enc Try.prog Try.f14 Rows.treeCountsRow.domain false) (Rows.treeCountsSpec.post enc Try.prog Try.f14 false true false false) := by
  refine returnsInHanded_of_change (C := Try.checked) Try.own started (by kernel_rfl) Try.func14
    (ChangeSpec.witness6 (enc := enc) (C := Try.checked) false ⟨#[], #[.agg #[.slice none 0 0, .slice none 0 0, .slice none 0 0], .slice none 0 0], []⟩ 8 (by kernel_rfl) (by kernel_rfl) (by kernel_rfl) (by kernel_rfl)) ?_
  intro W base args ds gs before hval0 hW _ _
  have hval : ∀ (j : Nat) t v, Try.f14.params[j]? = some t → args[j]? = some v → Value.okWide Try.prog W .any base t v := hval0
  have hW' := hW
  obtain ⟨p, q, hA0, hV, rfl, hfz, hnd⟩ := hW
  have hA : DataW.TrodAll enc Try.prog W 0 (fun _ => true) true Try.f14.params.toList args.toList ds p := hA0
  rw [Try.params14] at hA hval
  obtain ⟨v0, v1, d0, d1, p0, p1, rfl, rfl, rfl, h0, h1⟩ := trodAll_two hA
  obtain ⟨c, rfl, hc, _, _, z3, _⟩ := open_cfg2 (hval 0 25 v0 rfl rfl) h0
  obtain ⟨a1, c1, l1, rfl, hl1, _⟩ := open_ints2 (hval 1 35 v1 rfl rfl) h1
  refine (lawCounts13_any c a1 c1 l1 W hc z3 hl1).mono fun e W' ⟨he, hw⟩ => ?_
  subst he
  exact ⟨_, rfl, law_post hW' rfl rfl (by kernel_rfl) (by rw [Try.params14]; intro t ht; simp at ht; rcases ht with rfl | rfl <;> exact ⟨by kernel_rfl, of_decide_eq_true (by kernel_rfl)⟩) hw⟩

theorem treeCounts_holds : Rows.TreeCountsSaid :=
  OpenClaim.holds_of_wide 14 Try.f14 rfl rfl rfl rfl rfl rfl rfl ⟨rfl, rfl, rfl, rfl, rfl⟩ rfl rfl rfl rfl rfl (by kernel_rfl) Try.func14 (by kernel_rfl)
    (of_decide_eq_true (by kernel_rfl)) (by unfold Func.isWrapper; first | (rw [if_pos (by decide +kernel)]; kernel_rfl) | (rw [if_neg (by decide +kernel)]; exact ⟨rfl, rfl⟩))
    (fun os started H enc _ => treeCounts_lifted os started H enc)
end Go.Proofs.Ythogiakfbgehnaa

namespace Go.Proofs.Ythogiakfbgehnaa
open Go.RowKit

/-- What left comes to: nothing is left where less than none is told. -/
def LeftQ (n : Nat) (m : Int) (w : World) (e : Ending) (w' : World) : Prop := ∃ z : Int, e = .returned (.int .i64 z) ∧ -1 ≤ z ∧ z ≤ m - 1 ∧ (0 ≤ z → z = m - 1 - n) ∧ Below w.heap.size w w'
set_option maxRecDepth 100000 in
set_option maxHeartbeats 1000000 in
theorem left_any : ∀ (N : Nat) (h : TrH) (kids : TrF) (a : Option Addr) (cap : Nat) (m : Int) (w : World) (P : Nat → Prop), kids.size < N → TrS w P a cap kids → 0 ≤ m → m ≤ 1000000 →
    Calls Try.prog 94 #[treV h a kids.len cap, .int .i64 m] w (LeftQ kids.size m w) := by
  intro N
  induction N with
  | zero => intro h kids a cap m w P hN; omega
  | succ N ih =>
    intro h kids a cap m w P hN hI hm0 hm1
    obtain ⟨hk, hn, hs⟩ := h
    have hlm : kids.len ≤ cap ∧ cap ≤ 9223372036854775807 := ⟨hI.le, hI.max⟩
    obtain ⟨L, HL⟩ : ∃ L, Hid (kids.len = L) := ⟨_, Lib.hid rfl⟩
    obtain ⟨S, HS0⟩ : ∃ S, Hid (kids.size = S) := ⟨_, Lib.hid rfl⟩
    rw [HL.out] at hlm ⊢
    rw [HS0.out]
    have hb0 : Below w.heap.size w (w.alloc (.cells #[.int .i64 hk, .int .i64 hn, .int .i64 hs, .slice a L cap] 51)) := (Below.refl w.heap.size w).alloc (Nat.le_refl _) _
    have hBa := Blk.new w 51 #[.int .i64 hk, .int .i64 hn, .int .i64 hs, .slice a L cap]
    have y3 := hBa.cell 3
    simp only [List.getElem?_cons_zero, List.getElem?_cons_succ] at y3
    have Hb0 := Lib.hid hb0
    have HBa := Lib.hid hBa
    clear hb0 hBa
    go_enter Try.func94, Try.ntmps94
    go_wp2_with (fail)
    clear y3
    go_loopw [1, 12] (fun t i wr => ∃ (k : Nat) (z : Int), k ≤ L ∧ i = .int .i64 k ∧ t = .int .i64 z ∧ -1 ≤ z ∧ z ≤ m - 1 ∧ Hid (0 ≤ z → z + S = m - 1 + (kids.drop k).size) ∧ Hid (Below w.heap.size w wr)) (fun _ i _ => L - (RowKit.intOf i).toNat)
    case atStart => exact ⟨0, m - 1, by omega, rfl, rfl, by omega, by omega, Lib.hid (fun _ => by rw [← HS0.out]; rfl), Hb0⟩
    case round =>
      obtain ⟨k, z, hk', rfl, rfl, hz0, hz1, HZ, HBr⟩ := hrel
      by_cases hlt : k < L
      · obtain ⟨b1, off, hd, ks, xa, xcap, rfl, hat⟩ := (hI.grown HBr.out).at (k := k) (by rw [HL.out]; exact hlt)
        have HS := Lib.hid (TrAt.size hat)
        obtain ⟨x0, x1, x2, x3, hIk, hc1⟩ := hat
        have HC1 := Lib.hid hc1
        clear hc1
        have hmx := hIk.le
        have hmx2 := hIk.max
        by_cases hneg : z < 0
        · clear hIk
          have HF := Lib.hid (HBr.out.alloc HBr.out.size (.cells #[.int .i64 hd.k, .int .i64 hd.i, .int .i64 hd.a, .slice xa ks.len xcap] 51))
          go_wp2_with (fail)
          exact bodyPost_ret (v := .int .i64 z) (by simp [results, Try.results94, go_sem]; try first | rfl | assumption | omega) rfl ⟨z, rfl, hz0, hz1, fun h => absurd h (by omega), HF.out⟩
        · have hb1 : Below wr.heap.size wr (wr.alloc (.cells #[.int .i64 hd.k, .int .i64 hd.i, .int .i64 hd.a, .slice xa ks.len xcap] 51)) := (Below.refl wr.heap.size wr).alloc (Nat.le_refl _) _
          have hIH := ih hd ks xa xcap z (wr.alloc (.cells #[.int .i64 hd.k, .int .i64 hd.i, .int .i64 hd.a, .slice xa ks.len xcap] 51)) P (by have := HS.out; omega) (hIk.grown hb1) (by omega) (by omega)
          have HIH := Lib.hid hIH
          have Hb1 := Lib.hid (HBr.out.trans (hb1.mono HBr.out.size))
          clear hIk hIH hb1
          go_wp2_with (fail)
          refine HIH.out.mono ?_
          rintro e w4 ⟨z', rfl, q0, q1, q2, hb4⟩
          have HB4 := Lib.hid (Hb1.out.trans (hb4.mono Hb1.out.size))
          have HQ2 := Lib.hid q2
          clear hb4 q2 x0 x1 x2 x3
          go_wp2_with (fail)
          go_roundw
          case rel =>
            refine ⟨k + 1, z', by omega, by go_num, rfl, by omega, by omega, Lib.hid (fun h => ?_), HB4⟩
            have h1 := HQ2.out h
            have h2 := HZ.out (by omega)
            have h3 := HS.out
            omega
          case measure => simp [RowKit.intOf]; omega
      · obtain rfl : k = L := by omega
        go_wp2_with (fail)
        exact bodyPost_ret (v := .int .i64 z) (by simp [results, Try.results94, go_sem]; try first | rfl | assumption | omega) rfl ⟨z, rfl, hz0, hz1, fun h => by have h1 := HZ.out h; rw [TrF.drop_all (by rw [HL.out]; exact Nat.le_refl _)] at h1; simp only [TrF.size] at h1; omega, HBr.out⟩
/-- Few of trees: no more than so many nodes. -/
theorem tfew_any (h : TrH) (kids : TrF) (a : Option Addr) (cap : Nat) (m : Int) (w : World) (P : Nat → Prop) (hI : TrS w P a cap kids) (hm0 : 0 ≤ m) (hm1 : m ≤ 1000000) :
    Calls Try.prog 51 #[treV h a kids.len cap, .int .i64 m] w fun e w' => ∃ b, e = .returned (.bool b) ∧ Hid (b = true → (kids.size : Int) ≤ m - 1) ∧ Below w.heap.size w w' := by
  obtain ⟨hk, hn, hs⟩ := h
  have hlm : kids.len ≤ cap ∧ cap ≤ 9223372036854775807 := ⟨hI.le, hI.max⟩
  obtain ⟨L, HL⟩ : ∃ L, Hid (kids.len = L) := ⟨_, Lib.hid rfl⟩
  have hb0 : Below w.heap.size w (w.alloc (.cells #[.int .i64 hk, .int .i64 hn, .int .i64 hs, .slice a kids.len cap] 51)) := (Below.refl w.heap.size w).alloc (Nat.le_refl _) _
  have hC := left_any (kids.size + 1) ⟨hk, hn, hs⟩ kids a cap m (w.alloc (.cells #[.int .i64 hk, .int .i64 hn, .int .i64 hs, .slice a kids.len cap] 51)) P (by omega) (hI.grown hb0) hm0 hm1
  have HC := Lib.hid hC
  have Hb0 := Lib.hid hb0
  have hBa := Blk.new w 51 #[.int .i64 hk, .int .i64 hn, .int .i64 hs, .slice a kids.len cap]
  rw [HL.out] at hlm hBa HC Hb0 ⊢
  have y0 := hBa.cell 0
  have y1 := hBa.cell 1
  have y2 := hBa.cell 2
  have y3 := hBa.cell 3
  simp only [List.getElem?_cons_zero, List.getElem?_cons_succ] at y0 y1 y2 y3
  clear hb0 hC hBa
  go_enter Try.func51, Try.ntmps51
  go_wp2_with (fail)
  refine HC.out.mono ?_
  rintro e w4 ⟨z', rfl, q0, q1, q2, hb4⟩
  have HB4 := Lib.hid (Hb0.out.trans (hb4.mono Hb0.out.size))
  have HQ2 := Lib.hid q2
  clear hb4 q2 y0 y1 y2 y3
  by_cases h0 : 0 ≤ z'
  · go_wp2_with (fail)
    exact bodyPost_ret (v := .bool true) (by simp [results, Try.results51, go_sem]; try first | rfl | assumption | omega) rfl ⟨true, rfl, Lib.hid (fun _ => by have := HQ2.out h0; omega), HB4.out⟩
  · go_wp2_with (fail)
    exact bodyPost_ret (v := .bool false) (by simp [results, Try.results51, go_sem]; try first | rfl | assumption | omega) rfl ⟨false, rfl, Lib.hid (fun h => by cases h), HB4.out⟩
end Go.Proofs.Ythogiakfbgehnaa

