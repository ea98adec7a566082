/- Texts joined: Zd Ze. -/
import Derived.Test.YtngbfjimmdkfeaaJW1
import Derived.Test.YtngbfjimmdkfeaaJK3
import Derived.Test.YtngbfjimmdkfeaaJZ1
set_option linter.unusedVariables false
set_option linter.unusedSimpArgs false
namespace Go.Proofs.Ytngbfjimmdkfeaa
open Go.RowKit Go.Shelf

attribute [local go_sem] Oper.semAt_some

open Classical in
set_option maxRecDepth 100000 in
set_option maxHeartbeats 2000000 in
theorem refRun_any (x : Nf) (p : NfL) (s : ByteArray) (w : World) (hx : NfAt w x p) (hl : linkB x = true) (hE : x.ends.length ≤ 1000000000) (hs : s.size ≤ 900000000) :
    Calls Try.prog 22 #[.agg #[.int .i64 x.n, .int .i64 x.s, .slice p.ea x.ends.length p.ec, .slice p.ga x.es.length p.gc], .string s] w fun e w' => ∃ oa oc, e = .returned (.slice oa (runP x s.data.toList).length oc) ∧ IntsN w' oa oc (runP x s.data.toList) ∧ Below w.heap.size w w' := by
  obtain ⟨ea, ec, ga, gc⟩ := p
  obtain ⟨st0, hs0, hs0l⟩ := link_start hl
  have hlm : x.ends.length ≤ ec ∧ ec ≤ 9223372036854775807 := ⟨hx.ends.le, hx.ends.max⟩
  have hlm2 : x.es.length ≤ gc ∧ gc ≤ 9223372036854775807 := ⟨hx.es.le, hx.es.max⟩
  dsimp only at *
  have hA0 := Blk.new w 32 #[.int .i64 x.n, .int .i64 x.s, .slice ea x.ends.length ec, .slice ga x.es.length gc]
  have hb0 : Below w.heap.size w (w.alloc (.cells #[.int .i64 x.n, .int .i64 x.s, .slice ea x.ends.length ec, .slice ga x.es.length gc] 32)) := (Below.refl _ w).alloc (Nat.le_refl _) _
  obtain ⟨W0, hW0⟩ : ∃ W, Hid (w.alloc (.cells #[.int .i64 x.n, .int .i64 x.s, .slice ea x.ends.length ec, .slice ga x.es.length gc] 32) = W) := ⟨_, Lib.hid rfl⟩
  rw [hW0.out] at hA0 hb0
  have hA0 : Blk W0 w.heap.size 32 [.int .i64 x.n, .int .i64 x.s, .slice ea x.ends.length ec, .slice ga x.es.length gc] := hA0
  have HX := Lib.hid hl
  have Hx := Lib.hid hx
  have Hs0 := Lib.hid hs0
  have hI0 : IntsN (W0.alloc (.cells #[.int .i64 x.s] 3)) (some ⟨W0.heap.size, 0, none⟩) 1 [st0] := by
    refine ⟨by simp, by omega, fun e => (by cases e), fun i hi => ⟨_, _, rfl⟩, fun b off e i hi => ?_⟩
    cases e
    obtain rfl : i = 0 := by simp at hi; omega
    have := (Blk.new W0 3 #[.int .i64 x.s]).cell 0
    rw [Hs0.out] at this ⊢
    exact this
  have hba := (Below.refl W0.heap.size W0).alloc (Nat.le_refl _) (.cells #[.int .i64 x.s] 3)
  have Hc := Lib.hid (refClose_any x ⟨ea, ec, ga, gc⟩ [st0] (some ⟨W0.heap.size, 0, none⟩) 1 _ ((hx.grown hb0).grown hba) hl hI0 (List.pairwise_singleton _ _) (fun v hv => by rw [List.mem_singleton.1 hv]; exact hs0l))
  have HBa := Lib.hid (hb0.trans (hba.mono hb0.size))
  have HAa := Lib.hid (hA0.alloc (.cells #[.int .i64 x.s] 3))
  obtain ⟨R, hR⟩ : ∃ R, Hid (runP x s.data.toList = R) := ⟨_, Lib.hid rfl⟩
  rw [hR.out]
  dsimp only at Hc
  have hws : W0.heap.size = w.heap.size + 1 := by rw [← hW0.out]; simp
  rw [hws] at Hc
  clear hx hl hs0 hI0 hba hb0 hws
  have x0 := hA0.cell 0
  have x1 := hA0.cell 1
  have x2 := hA0.cell 2
  have x3 := hA0.cell 3
  have xl := hA0.lt
  simp only [List.getElem?_cons_zero, List.getElem?_cons_succ] at x0 x1 x2 x3
  go_enter Try.func22, Try.ntmps22
  go_wp2_with (fail)
  rw [hW0.out]
  refine Hc.out.mono ?_
  rintro e w1 ⟨⟨oa0, oc0, out0, rfl, ho0, hr0, hi0, hl0⟩, hb1⟩
  have HA1 := Lib.hid (HAa.out.below hb1 HAa.out.lt)
  have HB1 := Lib.hid (HBa.out.trans (hb1.mono HBa.out.size))
  have HR0 : Hid (RunAt x s.data.toList 0 out0) := Lib.hid ⟨hr0, hl0, fun v => (hi0 v).trans (Rn.congr (fun a => by rw [List.mem_singleton, Hs0.out]; omega) v)⟩
  have Ho0 := Lib.hid ho0
  clear ho0 hr0 hi0 hl0 hb1 Hc HAa HBa hA0 x0 x1 x2 x3 xl
  go_wp2_with (fail)
  go_loopw [5, 6] (fun sv iv wr => ∃ (k : Nat) (oa : Option Addr) (oc : Nat) (out : List Nat), k ≤ s.size ∧ iv = .int .i64 (k : Int) ∧ sv = .slice oa out.length oc ∧ IntsN wr oa oc out ∧ RunAt x s.data.toList k out ∧ Below w1.heap.size w1 wr) (fun _ iv _ => s.size - (intOf iv).toNat)
  case atStart => exact ⟨0, oa0, oc0, out0, Nat.zero_le _, rfl, rfl, Ho0.out, HR0.out, Below.refl _ _⟩
  case round =>
    obtain ⟨k, oa, oc, out, hk, rfl, rfl, ho, hrn, hbr⟩ := hrel
    have HO := Lib.hid ho
    have HRn := Lib.hid hrn
    have hole := ho.le
    have holm := ho.max
    rw [List.length_map] at hole
    have HBr := Lib.hid hbr
    have HA := Lib.hid (HA1.out.below hbr HA1.out.lt)
    clear ho hrn hbr
    by_cases hlt : k < s.size
    · have hkI : (k : Int) < (s.size : Int) := by omega
      have hkI0 : (0 : Int) ≤ (k : Int) := by omega
      have hbd : Below wr.heap.size wr wr.drew := (Below.refl _ wr).drew
      have hkl : k < s.data.toList.length := by rw [dlenN]; exact hlt
      have HSt : Hid (∀ V, Below wr.drew.heap.size wr.drew V → (Below wr.drew.heap.size wr.drew V ∧ V.cell? ⟨w.heap.size, 0, none⟩ = some (.int .i64 x.n) ∧ V.cell? ⟨w.heap.size, 1, none⟩ = some (.int .i64 x.s) ∧ V.cell? ⟨w.heap.size, 2, none⟩ = some (.slice ea x.ends.length ec) ∧ V.cell? ⟨w.heap.size, 3, none⟩ = some (.slice ga x.es.length gc))) := Lib.hid (fun V hV => by
        have h := (show Blk wr.drew w.heap.size 32 [.int .i64 x.n, .int .i64 x.s, .slice ea x.ends.length ec, .slice ga x.es.length gc] from HA.out).below hV HA.out.lt
        exact ⟨hV, by simpa using h.cell 0, by simpa using h.cell 1, by simpa using h.cell 2, by simpa using h.cell 3⟩)
      have HB9 : Hid (∀ V, Below wr.drew.heap.size wr.drew V → Below w1.heap.size w1 V) := Lib.hid (fun V hV => HBr.out.trans ((hbd.trans hV).mono HBr.out.size))
      have HSs := Lib.hid (fun (V : World) (hV : Below wr.drew.heap.size wr.drew V) => (refStep_any x ⟨ea, ec, ga, gc⟩ out oa oc (s.data.toList[k]).toNat V (Hx.out.grown (HB1.out.trans ((HB9.out V hV).mono HB1.out.size))) HX.out (HO.out.grown (hbd.trans hV)) HRn.out.ris HRn.out.lt (UInt8.toNat_lt _)).mono (R' := fun e V' => ∃ oa9 oc9 o2, e = .returned (.slice oa9 (List.length o2) oc9) ∧ (IntsN V' oa9 oc9 o2 ∧ RunAt x s.data.toList (k + 1) o2) ∧ Below wr.drew.heap.size wr.drew V') (fun e V' ⟨oa9, oc9, o2, h1, ⟨h2, h3, h4, h5⟩, h6⟩ => ⟨oa9, oc9, o2, h1, ⟨h2, HRn.out.next hkl h3 h5 h4 HRn.out.shut⟩, hV.trans (h6.mono hV.size)⟩))
      dsimp only at HSs
      obtain ⟨c, hc⟩ : ∃ c, Hid (s.data.toList[k] = c) := ⟨_, Lib.hid rfl⟩
      rw [hc.out] at HSs
      have Hc2 : Hid (s[k] = c) := Lib.hid hc.out
      clear hbd hc
      go_wp2_with (fail)
      refine wp_region_held_drew (S := fun w' => (Below wr.drew.heap.size wr.drew w' ∧ w'.cell? ⟨w.heap.size, 0, none⟩ = some (.int .i64 x.n) ∧ w'.cell? ⟨w.heap.size, 1, none⟩ = some (.int .i64 x.s) ∧ w'.cell? ⟨w.heap.size, 2, none⟩ = some (.slice ea x.ends.length ec) ∧ w'.cell? ⟨w.heap.size, 3, none⟩ = some (.slice ga x.es.length gc))) (by kernel_rfl) ?_ (fun hHeld => ?_)
      · exact HSt.out _ (Below.refl _ _)
      refine wpAnyH_take (i := 0) (v := ?_) (gatL gatZ) (by kernel_rfl) (by kernel_rfl) (by kernel_rfl) (fun _ _ _ h => h) (Or.inl ⟨by rfl, ?_⟩) (by assumption) ?_
      rotate_left
      · intro w hSw
        try dsimp only at hSw
        go_simp
        all_goals with_reducible rfl
      try simp only [Act.put, List.setIfInBounds_toArray, List.set_cons_zero, List.set_cons_succ]
      refine wpAnyH_take (i := 1) (v := ?_) (gatL (gatS gatZ)) (by kernel_rfl) (by kernel_rfl) (by kernel_rfl) (fun _ _ _ h => h) (Or.inl ⟨by rfl, ?_⟩) (by assumption) ?_
      rotate_left
      · intro w hSw
        try dsimp only at hSw
        go_simp
        all_goals with_reducible rfl
      try simp only [Act.put, List.setIfInBounds_toArray, List.set_cons_zero, List.set_cons_succ]
      refine wpAnyH_take (i := 2) (v := ?_) (gatL (gatS (gatS gatZ))) (by kernel_rfl) (by kernel_rfl) (by kernel_rfl) (fun _ _ _ h => h) (Or.inl ⟨by rfl, ?_⟩) (by assumption) ?_
      rotate_left
      · intro w hSw
        try dsimp only at hSw
        go_simp
        all_goals with_reducible rfl
      try simp only [Act.put, List.setIfInBounds_toArray, List.set_cons_zero, List.set_cons_succ]
      refine wpAnyH_take (i := 3) (v := ?_) (gatL (gatS (gatS (gatS gatZ)))) (by kernel_rfl) (by kernel_rfl) (by kernel_rfl) (fun _ _ _ h => h) (Or.inl ⟨by rfl, ?_⟩) (by assumption) ?_
      rotate_left
      · intro w hSw
        try dsimp only at hSw
        go_simp
        all_goals with_reducible rfl
      try simp only [Act.put, List.setIfInBounds_toArray, List.set_cons_zero, List.set_cons_succ]
      refine wpAnyH_take (i := 4) (v := ?_) (gatL (gatS (gatS (gatS (gatS gatZ))))) (by kernel_rfl) (by kernel_rfl) (by kernel_rfl) (fun _ _ _ h => h) (Or.inl ⟨by rfl, ?_⟩) (by assumption) ?_
      rotate_left
      · intro w hSw
        try dsimp only at hSw
        go_simp
        all_goals with_reducible rfl
      try simp only [Act.put, List.setIfInBounds_toArray, List.set_cons_zero, List.set_cons_succ]
      refine wpAnyH_ready (rs := [5]) (by kernel_rfl) (by simp) ?_
      refine AllReadyH.cons (gatL (gatS (gatS (gatS (gatS (gatS gatZ)))))) (fun K hK => ?_) AllReadyH.nil
      go_simp
      go_at_call 38
      rw [Hc2.out]
      (with_reducible refine (HSs.out _ hHeld.1).mono ?_)
      rintro e V1 ⟨oa9, oc9, o2, rfl, hT1, hV1⟩
      have HV1 := Lib.hid hV1
      have HT1 := Lib.hid hT1
      clear hV1 hT1
      dsimp only
      refine hK.out _ _ ?_ (fun hHeld => ?_)
      · exact HSt.out _ HV1.out
      clear hK K
      try simp only [Act.put, List.setIfInBounds_toArray, List.set_cons_zero, List.set_cons_succ]
      refine wpAnyH_take (i := 6) (v := ?_) (gatL (gatS (gatS (gatS (gatS (gatS (gatS gatZ))))))) (by kernel_rfl) (by kernel_rfl) (by kernel_rfl) (fun _ _ _ h => h) (Or.inl ⟨by rfl, ?_⟩) (by assumption) ?_
      rotate_left
      · intro w hSw
        try dsimp only at hSw
        go_simp
        all_goals with_reducible rfl
      try simp only [Act.put, List.setIfInBounds_toArray, List.set_cons_zero, List.set_cons_succ]
      refine wpAnyH_done (by kernel_rfl) ?_ _
      go_wp2_with (fail)
      exact ⟨⟨k + 1, oa9, oc9, o2, by omega, by simp, rfl, HT1.out.1, HT1.out.2, HB9.out _ HV1.out⟩, by simp [intOf]; omega⟩
    · obtain rfl : k = s.size := by omega
      have hkI : ¬ (s.size : Int) < (s.size : Int) := by omega
      have HFin : Hid (∀ a, a ∈ out ↔ Rc x s.data.toList a) := Lib.hid (fun a => by
        have h := HRn.out.iff a
        rw [List.take_of_length_le (by rw [dlenN]; exact Nat.le_refl _)] at h
        exact h)
      have HFin2 : Hid (∀ i (hi : i < x.ends.length) (a : Nat), x.ends[i] = (a : Int) → ((∃ b : Nat, Rc x s.data.toList b ∧ x.ends[i]? = some (b : Int)) ↔ a ∈ out)) := Lib.hid (fun i hi a ha => by
        rw [List.getElem?_eq_getElem hi, ha]
        constructor
        · rintro ⟨b, h1, h2⟩
          obtain rfl : a = b := by injection h2 with h2; omega
          exact (HFin.out a).2 h1
        · exact fun h => ⟨a, (HFin.out a).1 h, rfl⟩)
      have x0 := HA.out.cell 0
      have x1 := HA.out.cell 1
      have x2 := HA.out.cell 2
      have x3 := HA.out.cell 3
      have xl := HA.out.lt
      simp only [List.getElem?_cons_zero, List.getElem?_cons_succ] at x0 x1 x2 x3
      go_wp2_with (fail)
      obtain ⟨E, hEE⟩ : ∃ E, Hid (x.ends.length = E) := ⟨_, Lib.hid rfl⟩
      rw [hEE.out] at hlm hE ⊢
      go_loopw [7, 8, 9, 30] (fun ov _ _ iv wr2 => ∃ (i : Nat) (oa : Option Addr) (oc : Nat) (l : List Nat), i ≤ E ∧ iv = .int .i64 (i : Int) ∧ ov = .slice oa l.length oc ∧ OwnI wr2 wr.heap.size oa l.length oc l ∧ l.length ≤ i ∧ l = (List.range i).filter (fun i => decide (∃ a : Nat, Rc x s.data.toList a ∧ x.ends[i]? = some (a : Int))) ∧ Below wr.heap.size wr wr2) (fun _ _ _ iv _ => E - (intOf iv).toNat)
      case atStart => exact ⟨0, none, 0, [], Nat.zero_le _, rfl, rfl, World.ownsRow_nil _ _ _ _, Nat.le_refl _, rfl, Below.refl _ _⟩
      case round =>
        obtain ⟨i, oa5, oc5, l, hi, rfl, rfl, ho5, hll, hlq, hk5⟩ := hrel
        rename_i wr2
        have HO5 := Lib.hid ho5
        have Hlq := Lib.hid hlq
        have HK5 := Lib.hid hk5
        have HE5 := Lib.hid ((Hx.out.ends.grown (HB1.out.trans (HBr.out.mono HB1.out.size))).grown hk5)
        have HOs := Lib.hid (HO.out.grown hk5)
        clear ho5 hlq hk5 x0 x1 x2 x3 xl
        by_cases hilt : i < E
        · have hiI : (i : Int) < (E : Int) := by omega
          have hiI0 : (0 : Int) ≤ (i : Int) := by omega
          have hil : i < x.ends.length := by rw [hEE.out]; exact hilt
          obtain ⟨b, off, rfl⟩ := HE5.out.at_ i hil
          have c0 := HE5.out.cell b off rfl i hil
          obtain ⟨st, hst, hstN⟩ := link_ends2 HX.out hil
          have HF3 := Lib.hid (HFin2.out i hil st hst)
          rw [hst] at c0
          have hbl := World.block_lt_of_cell? _ _ c0
          have HIn := Lib.hid (inI_any out oa oc st _ HOs.out)
          clear hst
          go_wp2_with (fail)
          refine HIn.out.mono ?_
          rintro e w5 ⟨rfl, rfl⟩
          by_cases hin : st ∈ out
          · have hinb : decide (st ∈ out) = true := decide_eq_true hin
            have HSn : Hid ((List.range (i + 1)).filter (fun i => decide (∃ a : Nat, Rc x s.data.toList a ∧ x.ends[i]? = some (a : Int))) = l ++ [i]) := Lib.hid (by
              rw [filter_snoc, ← Hlq.out, if_pos (HF3.out.2 hin)])
            obtain ⟨a', c', w6, hrun, ho6, hg6, _⟩ := run_pushI _ 23 i (.int .i64 (i : Int)) rfl HO5.out (by omega) HK5.out.size
            have Hrun := Lib.hid hrun
            have HO6 := Lib.hid ho6
            have HB6 := Lib.hid (HK5.out.grown hg6 HK5.out.size (fun k e => (HO5.out.typ k e).1))
            clear hrun ho6 hg6
            go_wp2_with (at_builtin; refine wpList_append_run rfl _ _ 23 23 rfl _ _ _ _ rfl rfl Hrun.out ?_)
            exact ⟨⟨i + 1, a', c', l ++ [i], by omega, by simp, by simp, by rw [List.length_append]; exact HO6.out, by simp; omega, HSn.out.symm, HB6.out⟩, by simp [intOf]; omega⟩
          · have hinb : decide (st ∈ out) = false := decide_eq_false hin
            have HSn : Hid ((List.range (i + 1)).filter (fun i => decide (∃ a : Nat, Rc x s.data.toList a ∧ x.ends[i]? = some (a : Int))) = l) := Lib.hid (by
              rw [filter_snoc, ← Hlq.out, if_neg (fun h => hin (HF3.out.1 h)), List.append_nil])
            go_wp2_with (fail)
            exact ⟨⟨i + 1, oa5, oc5, l, by omega, by simp, rfl, HO5.out, by omega, HSn.out.symm, HK5.out⟩, by simp [intOf]; omega⟩
        · obtain rfl : i = E := by omega
          have hiI : ¬ (i : Int) < (i : Int) := by omega
          have HFR : Hid (R = l) := Lib.hid (by rw [← hR.out, Hlq.out, ← hEE.out]; rfl)
          go_wp2_with (fail)
          exact bodyPost_ret (v := .slice oa5 l.length oc5) (by simp [results, Try.results22, go_sem]) rfl ⟨oa5, oc5, by rw [HFR.out], by rw [HFR.out]; exact HO5.out.ints, HB1.out.trans ((HBr.out.trans (HK5.out.mono HBr.out.size)).mono HB1.out.size)⟩
end Go.Proofs.Ytngbfjimmdkfeaa

namespace Go.Proofs.Ytngbfjimmdkfeaa
open Go.RowKit Go.Shelf

open Classical in
/-- All that edges by none lead to from S, rising. -/
noncomputable def cloP (x : Nf) (S : Nat → Prop) : List Nat := (List.range x.n.toNat).filter (fun v => decide (Rn x S v))
theorem range_rising : ∀ n, Rising (List.range n) := fun n => by
  unfold Rising
  exact List.pairwise_lt_range
open Classical in
theorem cloP_rising (x : Nf) (S : Nat → Prop) : Rising (cloP x S) := List.Pairwise.filter _ (range_rising _)
theorem rn_lt {x : Nf} {S : Nat → Prop} (hl : linkB x = true) (hS : ∀ a, S a → a < x.n.toNat) {a : Nat} (h : Rn x S a) : a < x.n.toNat :=
  Rn.closed (C := fun a => a < x.n.toNat) hS (fun a b _ ⟨e, he, _, _, h2⟩ => by
    obtain ⟨_, ⟨t, ht, htn⟩⟩ := link_ends hl he
    rw [ht] at h2
    have : t = b := by omega
    omega) h
open Classical in
theorem cloP_mem {x : Nf} {S : Nat → Prop} (hl : linkB x = true) (hS : ∀ a, S a → a < x.n.toNat) (v : Nat) : v ∈ cloP x S ↔ Rn x S v := by
  unfold cloP
  rw [List.mem_filter, List.mem_range, decide_eq_true_eq]
  exact ⟨fun h => h.2, fun h => ⟨rn_lt hl hS h, h⟩⟩
theorem cloP_is {x : Nf} {S : Nat → Prop} (hl : linkB x = true) (hS : ∀ a, S a → a < x.n.toNat) {out : List Nat} (hr : Rising out) (h : ∀ v, v ∈ out ↔ Rn x S v) : out = cloP x S :=
  rising_eq hr (cloP_rising x S) (fun v => (h v).trans (cloP_mem hl hS v).symm)
theorem rn_mono {x : Nf} {S T : Nat → Prop} (h : ∀ a, S a → T a) {a : Nat} : Rn x S a → Rn x T a :=
  Rn.closed (C := fun a => Rn x T a) (fun a ha => .base (h a ha)) (fun a b ha hb => .step ha hb)
theorem bstep_lt {x : Nf} (hl : linkB x = true) {c a b : Nat} (h : bstep x c a b) : b < x.n.toNat := by
  obtain ⟨e, he, _, _, h2⟩ := h
  obtain ⟨_, ⟨t, ht, htn⟩⟩ := link_ends hl he
  rw [ht] at h2
  have : t = b := by omega
  omega

/-- A list is answered, in a row that lies somewhere. -/
def AnsL (V : World) (C : List Nat) : Ending → World → Prop := fun e V' => ∃ oa oc, e = .returned (.slice oa C.length oc) ∧ IntsN V' oa oc C ∧ Below V.heap.size V V'
section
variable (x : Nf) (p : NfL) (set : List Nat) (a : Option Addr) (cap : Nat) (w : World) (hx : NfAt w x p) (hl : linkB x = true) (hs : IntsN w a cap set) (hlt : ∀ v ∈ set, v < x.n.toNat)
include hx hl hs hlt
theorem nclose_is (hM : x.es.length ≤ 500000) : Calls Try.prog 54 #[.agg #[.int .i64 x.n, .int .i64 x.s, .slice p.ea x.ends.length p.ec, .slice p.ga x.es.length p.gc], .slice a set.length cap] w (AnsL w (cloP x (· ∈ set))) := by
  refine (nclose_any x p set a cap w hx hl hM hs hlt).mono ?_
  rintro e w' ⟨oa, oc, out, rfl, ⟨h1, h2, h3, _⟩, h5⟩
  have := cloP_is hl hlt h2 h3
  subst this
  exact ⟨oa, oc, rfl, h1, h5⟩
end
end Go.Proofs.Ytngbfjimmdkfeaa

