/- Texts of layer 2 joined: Zf. -/
import Derived.Test.YtpbceejjkdmclaaJZ3
import Derived.Test.YtpbceejjkdmclaaJW1
import Derived.Test.YtpbceejjkdmclaaJRc
import Derived.Test.YtpbceejjkdmclaaJK4
set_option linter.unusedVariables false
set_option linter.unusedSimpArgs false
/- The law NfaSteps. -/
namespace Go.Proofs.Ytpbceejjkdmclaa
open Go.RowKit Go.Shelf

attribute [local go_sem] Oper.semAt_some

theorem nfB_link {x : Nf} (h : nfB x = true) : linkB x = true := by
  unfold nfB at h
  rw [Bool.and_eq_true] at h
  exact h.1
theorem smallN_len {x : Nf} (h : smallN x = true) : x.es.length ≤ 200 ∧ x.ends.length ≤ 50 := by
  unfold smallN at h
  simp only [Bool.and_eq_true, decide_eq_true_eq] at h
  exact h.1

set_option maxRecDepth 100000 in
set_option maxHeartbeats 2000000 in
theorem nfaSteps_any (x : Nf) (p : NfL) (set : List Int) (a : Option Addr) (cap c : Nat) (s : ByteArray) (w : World) (hx : NfAt w x p) (hs : Ints w a cap set) (hc : c < 256) :
    Calls Try.prog 5 #[.agg #[.int .i64 x.n, .int .i64 x.s, .slice p.ea x.ends.length p.ec, .slice p.ga x.es.length p.gc], .slice a set.length cap, .int .u8 (c : Int), .string s] w fun e w' => e = .returned (.bool true) ∧ Below w.heap.size w w' := by
  obtain ⟨ea, ec, ga, gc⟩ := p
  have hlm : x.ends.length ≤ ec ∧ ec ≤ 9223372036854775807 := ⟨hx.ends.le, hx.ends.max⟩
  have hlm2 : x.es.length ≤ gc ∧ gc ≤ 9223372036854775807 := ⟨hx.es.le, hx.es.max⟩
  have hle := hs.le
  have hmx := hs.max
  dsimp only at *
  have hA0 := Blk.new w 25 #[.int .i64 x.n, .int .i64 x.s, .slice ea x.ends.length ec, .slice ga x.es.length gc]
  have hb0 : Below w.heap.size w (w.alloc (.cells #[.int .i64 x.n, .int .i64 x.s, .slice ea x.ends.length ec, .slice ga x.es.length gc] 25)) := (Below.refl _ w).alloc (Nat.le_refl _) _
  obtain ⟨W0, hW0⟩ : ∃ W, Hid (w.alloc (.cells #[.int .i64 x.n, .int .i64 x.s, .slice ea x.ends.length ec, .slice ga x.es.length gc] 25) = W) := ⟨_, Lib.hid rfl⟩
  rw [hW0.out] at hA0 hb0
  have hA0 : Blk W0 w.heap.size 25 [.int .i64 x.n, .int .i64 x.s, .slice ea x.ends.length ec, .slice ga x.es.length gc] := hA0
  have Hx := Lib.hid (fun V => fun hV : Below w.heap.size w V => hx.grown hV)
  have Hs := Lib.hid (fun V => fun hV : Below w.heap.size w V => hs.grown hV)
  have Hsm := Lib.hid (fun V => fun hV : Below w.heap.size w V => small3_any x ⟨ea, ec, ga, gc⟩ V (hx.grown hV))
  have Hck := Lib.hid (fun V => fun hV : Below w.heap.size w V => refNCheck_any x ⟨ea, ec, ga, gc⟩ V (hx.grown hV))
  dsimp only at Hsm Hck
  obtain ⟨SN, hSN⟩ : ∃ q, Hid (smallN x = q) := ⟨_, Lib.hid rfl⟩
  obtain ⟨NB, hNB⟩ : ∃ q, Hid (nfB x = q) := ⟨_, Lib.hid rfl⟩
  rw [hSN.out] at Hsm
  rw [hNB.out] at Hck
  obtain ⟨B1, hB1⟩ : ∃ B, Hid (w.heap.size = B) := ⟨_, Lib.hid rfl⟩
  have HB0 := Lib.hid hb0
  have HA0 := Lib.hid hA0
  obtain ⟨S1, hS1⟩ : ∃ n, Hid (set.length = n) := ⟨_, Lib.hid rfl⟩
  rw [hS1.out] at hle ⊢
  clear hx hs hb0 hA0
  go_enter Try.func5, Try.ntmps5
  go_wp2_with (fail)
  rw [hW0.out]
  refine (live3_any _).mono ?_
  rintro e w1 ⟨rfl, hb1⟩
  have hA1 := HA0.out.below hb1 HA0.out.lt
  have hbw1 := HB0.out.trans (hb1.mono HB0.out.size)
  have Hc := Lib.hid (Hsm.out w1 hbw1)
  clear hb1 HA0 HB0 Hsm
  have x0 := hA1.cell 0
  have x1 := hA1.cell 1
  have x2 := hA1.cell 2
  have x3 := hA1.cell 3
  have xl := hA1.lt
  simp only [List.getElem?_cons_zero, List.getElem?_cons_succ] at x0 x1 x2 x3
  go_wp2_with (fail)
  refine Hc.out.mono ?_
  rintro e w2 ⟨rfl, hb2⟩
  have hA2 := hA1.below hb2 hA1.lt
  have hbw2 := hbw1.trans (hb2.mono hbw1.size)
  have Hc2 := Lib.hid (Hck.out w2 hbw2)
  clear hb2 hA1 hbw1 Hc Hck x0 x1 x2 x3 xl
  have x0 := hA2.cell 0
  have x1 := hA2.cell 1
  have x2 := hA2.cell 2
  have x3 := hA2.cell 3
  have xl := hA2.lt
  simp only [List.getElem?_cons_zero, List.getElem?_cons_succ] at x0 x1 x2 x3
  cases SN
  case false =>
    go_wp2_with (fail)
    exact bodyPost_ret (v := .bool true) (by simp [results, Try.results5, go_sem]; try rfl) rfl ⟨rfl, hbw2⟩
  go_wp2_with (fail)
  refine Hc2.out.mono ?_
  rintro e w3 ⟨rfl, hb3⟩
  have hA3 := hA2.below hb3 hA2.lt
  have hbw3 := hbw2.trans (hb3.mono hbw2.size)
  clear hb3 hA2 hbw2 Hc2 x0 x1 x2 x3 xl
  have x0 := hA3.cell 0
  have x1 := hA3.cell 1
  have x2 := hA3.cell 2
  have x3 := hA3.cell 3
  have xl := hA3.lt
  simp only [List.getElem?_cons_zero, List.getElem?_cons_succ] at x0 x1 x2 x3
  cases NB
  case false =>
    have h30 : (if false = true then (0 : Int) else 30) = 30 := rfl
    rw [h30]
    go_wp2_with (fail)
    exact bodyPost_ret (v := .bool true) (by simp [results, Try.results5, go_sem]; try rfl) rfl ⟨rfl, hbw3⟩
  have h30 : (if true = true then (0 : Int) else 30) = 0 := rfl
  rw [h30]
  clear h30
  by_cases hs30 : 30 < s.size
  · have hsI : (30 : Int) < (s.size : Int) := by omega
    go_wp2_with (fail)
    exact bodyPost_ret (v := .bool true) (by simp [results, Try.results5, go_sem]; try rfl) rfl ⟨rfl, hbw3⟩
  have hsI : ¬ (30 : Int) < (s.size : Int) := by omega
  by_cases hs100 : 100 < S1
  · have hsI2 : (100 : Int) < (S1 : Int) := by omega
    go_wp2_with (fail)
    exact bodyPost_ret (v := .bool true) (by simp [results, Try.results5, go_sem]; try rfl) rfl ⟨rfl, hbw3⟩
  have hsI2 : ¬ (100 : Int) < (S1 : Int) := by omega
  have HL := Lib.hid (nfB_link hNB.out)
  obtain ⟨hq1, hq2⟩ := smallN_len hSN.out
  have Hq := Lib.hid (And.intro hq1 hq2)
  obtain ⟨hn1, hn2, hn3⟩ := link_n HL.out
  obtain ⟨N, hN⟩ : ∃ n, Hid (x.n.toNat = n) := ⟨_, Lib.hid rfl⟩
  rw [hN.out] at hn1 hn2
  have Hn1 := Lib.hid hn1
  have HA3 := Lib.hid hA3
  have HB3 := Lib.hid hbw3
  clear hn1 hn3 hA3 hbw3
  go_wp2_with (fail)
  clear x0 x1 x2 x3 xl
  go_loopw [10, 12, 35] (fun ov _ iv wr => ∃ (k : Nat) (oa : Option Addr) (oc : Nat) (l : List Nat), k ≤ S1 ∧ iv = .int .i64 (k : Int) ∧ ov = .slice oa l.length oc ∧ (IntsN wr oa oc l ∧ Rising l ∧ ∀ v ∈ l, v < N) ∧ Below w3.heap.size w3 wr) (fun _ _ iv _ => S1 - (intOf iv).toNat)
  case atStart => exact ⟨0, none, 0, [], Nat.zero_le _, rfl, rfl, ⟨Ints.nil _, List.Pairwise.nil, fun v h => (by cases h)⟩, Below.refl _ _⟩
  case round =>
    obtain ⟨k, oa, oc, l, hk, rfl, rfl, ⟨hi, hr, hlt0⟩, hbr⟩ := hrel
    have hll := rising_len l 0 N hr (fun v hv => ⟨Nat.zero_le _, hlt0 v hv⟩)
    have hA := HA3.out.below hbr HA3.out.lt
    have Hbw := Lib.hid (HB3.out.trans (hbr.mono HB3.out.size))
    have Hbr := Lib.hid hbr
    have hile := hi.le
    have himx := hi.max
    rw [List.length_map] at hile
    have HI := Lib.hid hi
    have HR := Lib.hid hr
    have HLt := Lib.hid hlt0
    have HAr := Lib.hid hA
    clear hi hr hlt0 hbr
    have x0 := hA.cell 0
    have x1 := hA.cell 1
    have x2 := hA.cell 2
    have x3 := hA.cell 3
    have xl := hA.lt
    simp only [List.getElem?_cons_zero, List.getElem?_cons_succ] at x0 x1 x2 x3
    by_cases hlt : k < S1
    · have hkI : (k : Int) < (S1 : Int) := by omega
      have hkI0 : (0 : Int) ≤ (k : Int) := by omega
      have hkl : k < set.length := by rw [hS1.out]; exact hlt
      obtain ⟨b, off, rfl⟩ := (Hs.out wr Hbw.out).at_ k hkl
      have c0 := (Hs.out wr Hbw.out).cell b off rfl k hkl
      have hbl := World.block_lt_of_cell? _ _ c0
      obtain ⟨v, hv⟩ : ∃ v, Hid (set[k] = v) := ⟨_, Lib.hid rfl⟩
      rw [hv.out] at c0
      clear hA
      by_cases hv0 : 0 ≤ v
      · by_cases hvn : v < x.n
        · obtain ⟨u, rfl⟩ : ∃ u : Nat, v = (u : Int) := ⟨v.toNat, by omega⟩
          have huN : u < N := by have := Hn1.out; omega
          have Hw := Lib.hid (refWith_any l u oa oc wr HI.out (by omega) (by omega) (fun v hv => by have := HLt.out v hv; omega))
          go_wp2_with (fail)
          refine Hw.out.mono ?_
          rintro e w5 ⟨⟨oa5, oc5, rfl, hi5⟩, hb5⟩
          have Hi5 := Lib.hid hi5
          have Hb5 := Lib.hid (Hbr.out.trans (hb5.mono Hbr.out.size))
          clear hi5 hb5 x0 x1 x2 x3 xl
          go_wp2_with (fail)
          exact ⟨⟨k + 1, oa5, oc5, withP l u, by omega, by simp, rfl, ⟨Hi5.out, withP_rising HR.out u, fun v hv => ((withP_mem _ _ _).1 hv).elim (HLt.out v) (fun e => by omega)⟩, Hb5.out⟩, by simp [intOf]; omega⟩
        · go_wp2_with (fail)
          exact ⟨⟨k + 1, oa, oc, l, by omega, by simp, rfl, ⟨HI.out, HR.out, HLt.out⟩, Hbr.out⟩, by simp [intOf]; omega⟩
      · go_wp2_with (fail)
        exact ⟨⟨k + 1, oa, oc, l, by omega, by simp, rfl, ⟨HI.out, HR.out, HLt.out⟩, Hbr.out⟩, by simp [intOf]; omega⟩
    · obtain rfl : k = S1 := by omega
      have hkI : ¬ (k : Int) < (k : Int) := by omega
      have hbd : Below wr.heap.size wr wr.drew := (Below.refl _ wr).drew
      have HLn : Hid (∀ v ∈ l, v < x.n.toNat) := Lib.hid (by rw [hN.out]; exact HLt.out)
      have HSt : Hid (∀ V, Below wr.drew.heap.size wr.drew V → (Below wr.drew.heap.size wr.drew V ∧ V.cell? ⟨B1, 0, none⟩ = some (.int .i64 x.n) ∧ V.cell? ⟨B1, 1, none⟩ = some (.int .i64 x.s) ∧ V.cell? ⟨B1, 2, none⟩ = some (.slice ea x.ends.length ec) ∧ V.cell? ⟨B1, 3, none⟩ = some (.slice ga x.es.length gc))) := Lib.hid (fun V hV => by
        have h := (show Blk wr.drew w.heap.size 25 [.int .i64 x.n, .int .i64 x.s, .slice ea x.ends.length ec, .slice ga x.es.length gc] from HAr.out).below hV HAr.out.lt
        rw [hB1.out] at h
        exact ⟨hV, by simpa using h.cell 0, by simpa using h.cell 1, by simpa using h.cell 2, by simpa using h.cell 3⟩)
      have HBw : Hid (∀ V, Below wr.drew.heap.size wr.drew V → Below w.heap.size w V) := Lib.hid (fun V hV => Hbw.out.trans ((hbd.trans hV).mono Hbw.out.size))
      have HI2 := Lib.hid (fun V => fun hV : Below wr.drew.heap.size wr.drew V => HI.out.grown (hbd.trans hV))
      have HC1 := Lib.hid (fun V hV => nclose_is x ⟨ea, ec, ga, gc⟩ l oa oc V (Hx.out V (HBw.out V hV)) HL.out (HI2.out V hV) HLn.out (by have := Hq.out.1; omega))
      have HC2 := Lib.hid (fun V hV => refClose_is x ⟨ea, ec, ga, gc⟩ l oa oc V (Hx.out V (HBw.out V hV)) HL.out (HI2.out V hV) HLn.out HR.out)
      have HC3 := Lib.hid (fun V hV => nstep_is x ⟨ea, ec, ga, gc⟩ l oa oc V (Hx.out V (HBw.out V hV)) HL.out (HI2.out V hV) HLn.out (by have := Hq.out.1; omega) c hc)
      have HC4 := Lib.hid (fun V hV => refStep_is x ⟨ea, ec, ga, gc⟩ l oa oc V (Hx.out V (HBw.out V hV)) HL.out (HI2.out V hV) HLn.out HR.out c hc)
      have HC5 := Lib.hid (fun V hV => run_any x ⟨ea, ec, ga, gc⟩ s V (Hx.out V (HBw.out V hV)) HL.out (by have := Hq.out.1; omega) (by have := Hq.out.2; omega) (by omega))
      have HC6 := Lib.hid (fun V hV => refRun_any x ⟨ea, ec, ga, gc⟩ s V (Hx.out V (HBw.out V hV)) HL.out (by have := Hq.out.2; omega) (by omega))
      dsimp only at HC1 HC2 HC3 HC4 HC5 HC6
      obtain ⟨CL1, hCL1⟩ : ∃ C, Hid (cloP x (· ∈ l) = C) := ⟨_, Lib.hid rfl⟩
      obtain ⟨CL4, hCL4⟩ : ∃ C, Hid (cloP x (stS x l c) = C) := ⟨_, Lib.hid rfl⟩
      obtain ⟨CL7, hCL7⟩ : ∃ C, Hid (runP x s.data.toList = C) := ⟨_, Lib.hid rfl⟩
      rw [hCL1.out] at HC1 HC2
      rw [hCL4.out] at HC3 HC4
      rw [hCL7.out] at HC5 HC6
      clear hA hbd
      simp only [hB1.out] at x0 x1 x2 x3 xl ⊢
      go_wp2_with (fail)
      refine wp_region_held_drew (S := fun w' => (Below wr.drew.heap.size wr.drew w' ∧ w'.cell? ⟨B1, 0, none⟩ = some (.int .i64 x.n) ∧ w'.cell? ⟨B1, 1, none⟩ = some (.int .i64 x.s) ∧ w'.cell? ⟨B1, 2, none⟩ = some (.slice ea x.ends.length ec) ∧ w'.cell? ⟨B1, 3, none⟩ = some (.slice ga x.es.length gc))) (by kernel_rfl) ?_ (fun hHeld => ?_)
      · exact HSt.out _ (Below.refl _ _)
      refine wpAnyH_take (i := 0) (v := ?_) (gatL gatZ) (by kernel_rfl) (by kernel_rfl) (by kernel_rfl) (fun _ _ _ h => h) (Or.inl ⟨by rfl, ?_⟩) (by assumption) ?_
      rotate_left
      · intro w hSw
        try dsimp only at hSw
        go_simp
        all_goals with_reducible rfl
      try simp only [Act.put, List.setIfInBounds_toArray, List.set_cons_zero, List.set_cons_succ]
      refine wpAnyH_take (i := 1) (v := ?_) (gatL (gatS gatZ)) (by kernel_rfl) (by kernel_rfl) (by kernel_rfl) (fun _ _ _ h => h) (Or.inl ⟨by rfl, ?_⟩) (by assumption) ?_
      rotate_left
      · intro w hSw
        try dsimp only at hSw
        go_simp
        all_goals with_reducible rfl
      try simp only [Act.put, List.setIfInBounds_toArray, List.set_cons_zero, List.set_cons_succ]
      refine wpAnyH_take (i := 2) (v := ?_) (gatL (gatS (gatS gatZ))) (by kernel_rfl) (by kernel_rfl) (by kernel_rfl) (fun _ _ _ h => h) (Or.inl ⟨by rfl, ?_⟩) (by assumption) ?_
      rotate_left
      · intro w hSw
        try dsimp only at hSw
        go_simp
        all_goals with_reducible rfl
      try simp only [Act.put, List.setIfInBounds_toArray, List.set_cons_zero, List.set_cons_succ]
      refine wpAnyH_take (i := 3) (v := ?_) (gatL (gatS (gatS (gatS gatZ)))) (by kernel_rfl) (by kernel_rfl) (by kernel_rfl) (fun _ _ _ h => h) (Or.inl ⟨by rfl, ?_⟩) (by assumption) ?_
      rotate_left
      · intro w hSw
        try dsimp only at hSw
        go_simp
        all_goals with_reducible rfl
      try simp only [Act.put, List.setIfInBounds_toArray, List.set_cons_zero, List.set_cons_succ]
      refine wpAnyH_take (i := 5) (v := ?_) (gatL (gatS (gatS (gatS (gatS (gatS gatZ)))))) (by kernel_rfl) (by kernel_rfl) (by kernel_rfl) (fun _ _ _ h => h) (Or.inl ⟨by rfl, ?_⟩) (by assumption) ?_
      rotate_left
      · intro w hSw
        try dsimp only at hSw
        go_simp
        all_goals with_reducible rfl
      try simp only [Act.put, List.setIfInBounds_toArray, List.set_cons_zero, List.set_cons_succ]
      refine wpAnyH_take (i := 6) (v := ?_) (gatL (gatS (gatS (gatS (gatS (gatS (gatS gatZ))))))) (by kernel_rfl) (by kernel_rfl) (by kernel_rfl) (fun _ _ _ h => h) (Or.inl ⟨by rfl, ?_⟩) (by assumption) ?_
      rotate_left
      · intro w hSw
        try dsimp only at hSw
        go_simp
        all_goals with_reducible rfl
      try simp only [Act.put, List.setIfInBounds_toArray, List.set_cons_zero, List.set_cons_succ]
      refine wpAnyH_ready (rs := [4]) (by kernel_rfl) (by simp) ?_
      refine AllReadyH.cons (gatL (gatS (gatS (gatS (gatS gatZ))))) (fun K hK => ?_) AllReadyH.nil
      go_simp
      go_at_call 19
      (with_reducible refine (HC1.out _ hHeld.1).mono ?_)
      rintro e V1 ⟨o1, c1, rfl, hi1, hb1⟩
      have HI1 := Lib.hid hi1
      have HV1 := Lib.hid (hHeld.1.trans (hb1.mono hHeld.1.size))
      clear hi1 hb1
      dsimp only
      refine hK.out _ _ ?_ (fun hHeld => ?_)
      · exact HSt.out _ HV1.out
      clear hK K
      try simp only [Act.put, List.setIfInBounds_toArray, List.set_cons_zero, List.set_cons_succ]
      refine wpAnyH_ready (rs := [7]) (by kernel_rfl) (by simp) ?_
      refine AllReadyH.cons (gatL (gatS (gatS (gatS (gatS (gatS (gatS (gatS gatZ)))))))) (fun K hK => ?_) AllReadyH.nil
      go_simp
      go_at_call 20
      (with_reducible refine (HC2.out _ hHeld.1).mono ?_)
      rintro e V2 ⟨o2, c2, rfl, hi2, hb2⟩
      have HI2 := Lib.hid hi2
      have HV2 := Lib.hid (hHeld.1.trans (hb2.mono hHeld.1.size))
      have HI1 := Lib.hid (HI1.out.grown hb2)
      clear hi2 hb2
      dsimp only
      refine hK.out _ _ ?_ (fun hHeld => ?_)
      · exact HSt.out _ HV2.out
      clear hK K
      try simp only [Act.put, List.setIfInBounds_toArray, List.set_cons_zero, List.set_cons_succ]
      refine wpAnyH_ready (rs := [8]) (by kernel_rfl) (by simp) ?_
      refine AllReadyH.cons (gatL (gatS (gatS (gatS (gatS (gatS (gatS (gatS (gatS gatZ))))))))) (fun K hK => ?_) AllReadyH.nil
      go_simp
      go_at_call 18
      (with_reducible refine (sameN_any _ _ _ _ _ _ HI1.out HI2.out).mono ?_)
      rintro e V3 ⟨rfl, hb3⟩
      have HV3 := Lib.hid (hHeld.1.trans (hb3.mono hHeld.1.size))
      clear hb3 HI1 HI2
      dsimp only
      refine hK.out _ _ ?_ (fun hHeld => ?_)
      · exact HSt.out _ HV3.out
      clear hK K
      try simp only [Act.put, List.setIfInBounds_toArray, List.set_cons_zero, List.set_cons_succ]
      refine wpAnyH_take (i := 9) (v := ?_) (gatL (gatS (gatS (gatS (gatS (gatS (gatS (gatS (gatS (gatS gatZ)))))))))) (by kernel_rfl) (by kernel_rfl) (by kernel_rfl) (fun _ _ _ h => h) (Or.inl ⟨by rfl, ?_⟩) (by assumption) ?_
      rotate_left
      · intro w hSw
        try dsimp only at hSw
        go_simp
        all_goals with_reducible rfl
      try simp only [Act.put, List.setIfInBounds_toArray, List.set_cons_zero, List.set_cons_succ]
      refine wpAnyH_take (i := 10) (v := ?_) (gatL (gatS (gatS (gatS (gatS (gatS (gatS (gatS (gatS (gatS (gatS gatZ))))))))))) (by kernel_rfl) (by kernel_rfl) (by kernel_rfl) (fun _ _ _ h => h) (Or.inl ⟨by rfl, ?_⟩) (by assumption) ?_
      rotate_left
      · intro w hSw
        try dsimp only at hSw
        go_simp
        all_goals with_reducible rfl
      try simp only [Act.put, List.setIfInBounds_toArray, List.set_cons_zero, List.set_cons_succ]
      refine wpAnyH_take (i := 11) (v := ?_) (gatL (gatS (gatS (gatS (gatS (gatS (gatS (gatS (gatS (gatS (gatS (gatS gatZ)))))))))))) (by kernel_rfl) (by kernel_rfl) (by kernel_rfl) (fun _ _ _ h => h) (Or.inl ⟨by rfl, ?_⟩) (by assumption) ?_
      rotate_left
      · intro w hSw
        try dsimp only at hSw
        go_simp
        all_goals with_reducible rfl
      try simp only [Act.put, List.setIfInBounds_toArray, List.set_cons_zero, List.set_cons_succ]
      refine wpAnyH_take (i := 12) (v := ?_) (gatL (gatS (gatS (gatS (gatS (gatS (gatS (gatS (gatS (gatS (gatS (gatS (gatS gatZ))))))))))))) (by kernel_rfl) (by kernel_rfl) (by kernel_rfl) (fun _ _ _ h => h) (Or.inl ⟨by rfl, ?_⟩) (by assumption) ?_
      rotate_left
      · intro w hSw
        try dsimp only at hSw
        go_simp
        all_goals with_reducible rfl
      try simp only [Act.put, List.setIfInBounds_toArray, List.set_cons_zero, List.set_cons_succ]
      refine wpAnyH_take (i := 13) (v := ?_) (gatL (gatS (gatS (gatS (gatS (gatS (gatS (gatS (gatS (gatS (gatS (gatS (gatS (gatS gatZ)))))))))))))) (by kernel_rfl) (by kernel_rfl) (by kernel_rfl) (fun _ _ _ h => h) (Or.inl ⟨by rfl, ?_⟩) (by assumption) ?_
      rotate_left
      · intro w hSw
        try dsimp only at hSw
        go_simp
        all_goals with_reducible rfl
      try simp only [Act.put, List.setIfInBounds_toArray, List.set_cons_zero, List.set_cons_succ]
      refine wpAnyH_take (i := 15) (v := ?_) (gatL (gatS (gatS (gatS (gatS (gatS (gatS (gatS (gatS (gatS (gatS (gatS (gatS (gatS (gatS (gatS gatZ)))))))))))))))) (by kernel_rfl) (by kernel_rfl) (by kernel_rfl) (fun _ _ _ h => h) (Or.inl ⟨by rfl, ?_⟩) (by assumption) ?_
      rotate_left
      · intro w hSw
        try dsimp only at hSw
        go_simp
        all_goals with_reducible rfl
      try simp only [Act.put, List.setIfInBounds_toArray, List.set_cons_zero, List.set_cons_succ]
      refine wpAnyH_take (i := 16) (v := ?_) (gatL (gatS (gatS (gatS (gatS (gatS (gatS (gatS (gatS (gatS (gatS (gatS (gatS (gatS (gatS (gatS (gatS gatZ))))))))))))))))) (by kernel_rfl) (by kernel_rfl) (by kernel_rfl) (fun _ _ _ h => h) (Or.inl ⟨by rfl, ?_⟩) (by assumption) ?_
      rotate_left
      · intro w hSw
        try dsimp only at hSw
        go_simp
        all_goals with_reducible rfl
      try simp only [Act.put, List.setIfInBounds_toArray, List.set_cons_zero, List.set_cons_succ]
      refine wpAnyH_take (i := 17) (v := ?_) (gatL (gatS (gatS (gatS (gatS (gatS (gatS (gatS (gatS (gatS (gatS (gatS (gatS (gatS (gatS (gatS (gatS (gatS gatZ)))))))))))))))))) (by kernel_rfl) (by kernel_rfl) (by kernel_rfl) (fun _ _ _ h => h) (Or.inl ⟨by rfl, ?_⟩) (by assumption) ?_
      rotate_left
      · intro w hSw
        try dsimp only at hSw
        go_simp
        all_goals with_reducible rfl
      try simp only [Act.put, List.setIfInBounds_toArray, List.set_cons_zero, List.set_cons_succ]
      refine wpAnyH_ready (rs := [14]) (by kernel_rfl) (by simp) ?_
      refine AllReadyH.cons (gatL (gatS (gatS (gatS (gatS (gatS (gatS (gatS (gatS (gatS (gatS (gatS (gatS (gatS (gatS gatZ))))))))))))))) (fun K hK => ?_) AllReadyH.nil
      go_simp
      go_at_call 21
      (with_reducible refine (HC3.out _ hHeld.1).mono ?_)
      rintro e V4 ⟨o4, c4, rfl, hi4, hb4⟩
      have HI4 := Lib.hid hi4
      have HV4 := Lib.hid (hHeld.1.trans (hb4.mono hHeld.1.size))
      clear hi4 hb4
      dsimp only
      refine hK.out _ _ ?_ (fun hHeld => ?_)
      · exact HSt.out _ HV4.out
      clear hK K
      try simp only [Act.put, List.setIfInBounds_toArray, List.set_cons_zero, List.set_cons_succ]
      refine wpAnyH_ready (rs := [18]) (by kernel_rfl) (by simp) ?_
      refine AllReadyH.cons (gatL (gatS (gatS (gatS (gatS (gatS (gatS (gatS (gatS (gatS (gatS (gatS (gatS (gatS (gatS (gatS (gatS (gatS (gatS gatZ))))))))))))))))))) (fun K hK => ?_) AllReadyH.nil
      go_simp
      go_at_call 22
      (with_reducible refine (HC4.out _ hHeld.1).mono ?_)
      rintro e V5 ⟨o5, c5, rfl, hi5, hb5⟩
      have HI5 := Lib.hid hi5
      have HV5 := Lib.hid (hHeld.1.trans (hb5.mono hHeld.1.size))
      have HI4 := Lib.hid (HI4.out.grown hb5)
      clear hi5 hb5
      dsimp only
      refine hK.out _ _ ?_ (fun hHeld => ?_)
      · exact HSt.out _ HV5.out
      clear hK K
      try simp only [Act.put, List.setIfInBounds_toArray, List.set_cons_zero, List.set_cons_succ]
      refine wpAnyH_ready (rs := [19]) (by kernel_rfl) (by simp) ?_
      refine AllReadyH.cons (gatL (gatS (gatS (gatS (gatS (gatS (gatS (gatS (gatS (gatS (gatS (gatS (gatS (gatS (gatS (gatS (gatS (gatS (gatS (gatS gatZ)))))))))))))))))))) (fun K hK => ?_) AllReadyH.nil
      go_simp
      go_at_call 18
      (with_reducible refine (sameN_any _ _ _ _ _ _ HI4.out HI5.out).mono ?_)
      rintro e V6 ⟨rfl, hb6⟩
      have HV6 := Lib.hid (hHeld.1.trans (hb6.mono hHeld.1.size))
      clear hb6 HI4 HI5
      dsimp only
      refine hK.out _ _ ?_ (fun hHeld => ?_)
      · exact HSt.out _ HV6.out
      clear hK K
      try simp only [Act.put, List.setIfInBounds_toArray, List.set_cons_zero, List.set_cons_succ]
      refine wpAnyH_take (i := 20) (v := ?_) (gatL (gatS (gatS (gatS (gatS (gatS (gatS (gatS (gatS (gatS (gatS (gatS (gatS (gatS (gatS (gatS (gatS (gatS (gatS (gatS (gatS gatZ))))))))))))))))))))) (by kernel_rfl) (by kernel_rfl) (by kernel_rfl) (fun _ _ _ h => h) (Or.inl ⟨by rfl, ?_⟩) (by assumption) ?_
      rotate_left
      · intro w hSw
        try dsimp only at hSw
        go_simp
        all_goals with_reducible rfl
      try simp only [Act.put, List.setIfInBounds_toArray, List.set_cons_zero, List.set_cons_succ]
      refine wpAnyH_take (i := 21) (v := ?_) (gatL (gatS (gatS (gatS (gatS (gatS (gatS (gatS (gatS (gatS (gatS (gatS (gatS (gatS (gatS (gatS (gatS (gatS (gatS (gatS (gatS (gatS gatZ)))))))))))))))))))))) (by kernel_rfl) (by kernel_rfl) (by kernel_rfl) (fun _ _ _ h => h) (Or.inl ⟨by rfl, ?_⟩) (by assumption) ?_
      rotate_left
      · intro w hSw
        try dsimp only at hSw
        go_simp
        all_goals with_reducible rfl
      try simp only [Act.put, List.setIfInBounds_toArray, List.set_cons_zero, List.set_cons_succ]
      refine wpAnyH_take (i := 22) (v := ?_) (gatL (gatS (gatS (gatS (gatS (gatS (gatS (gatS (gatS (gatS (gatS (gatS (gatS (gatS (gatS (gatS (gatS (gatS (gatS (gatS (gatS (gatS (gatS gatZ))))))))))))))))))))))) (by kernel_rfl) (by kernel_rfl) (by kernel_rfl) (fun _ _ _ h => h) (Or.inl ⟨by rfl, ?_⟩) (by assumption) ?_
      rotate_left
      · intro w hSw
        try dsimp only at hSw
        go_simp
        all_goals with_reducible rfl
      try simp only [Act.put, List.setIfInBounds_toArray, List.set_cons_zero, List.set_cons_succ]
      refine wpAnyH_take (i := 23) (v := ?_) (gatL (gatS (gatS (gatS (gatS (gatS (gatS (gatS (gatS (gatS (gatS (gatS (gatS (gatS (gatS (gatS (gatS (gatS (gatS (gatS (gatS (gatS (gatS (gatS gatZ)))))))))))))))))))))))) (by kernel_rfl) (by kernel_rfl) (by kernel_rfl) (fun _ _ _ h => h) (Or.inl ⟨by rfl, ?_⟩) (by assumption) ?_
      rotate_left
      · intro w hSw
        try dsimp only at hSw
        go_simp
        all_goals with_reducible rfl
      try simp only [Act.put, List.setIfInBounds_toArray, List.set_cons_zero, List.set_cons_succ]
      refine wpAnyH_take (i := 25) (v := ?_) (gatL (gatS (gatS (gatS (gatS (gatS (gatS (gatS (gatS (gatS (gatS (gatS (gatS (gatS (gatS (gatS (gatS (gatS (gatS (gatS (gatS (gatS (gatS (gatS (gatS (gatS gatZ)))))))))))))))))))))))))) (by kernel_rfl) (by kernel_rfl) (by kernel_rfl) (fun _ _ _ h => h) (Or.inl ⟨by rfl, ?_⟩) (by assumption) ?_
      rotate_left
      · intro w hSw
        try dsimp only at hSw
        go_simp
        all_goals with_reducible rfl
      try simp only [Act.put, List.setIfInBounds_toArray, List.set_cons_zero, List.set_cons_succ]
      refine wpAnyH_take (i := 26) (v := ?_) (gatL (gatS (gatS (gatS (gatS (gatS (gatS (gatS (gatS (gatS (gatS (gatS (gatS (gatS (gatS (gatS (gatS (gatS (gatS (gatS (gatS (gatS (gatS (gatS (gatS (gatS (gatS gatZ))))))))))))))))))))))))))) (by kernel_rfl) (by kernel_rfl) (by kernel_rfl) (fun _ _ _ h => h) (Or.inl ⟨by rfl, ?_⟩) (by assumption) ?_
      rotate_left
      · intro w hSw
        try dsimp only at hSw
        go_simp
        all_goals with_reducible rfl
      try simp only [Act.put, List.setIfInBounds_toArray, List.set_cons_zero, List.set_cons_succ]
      refine wpAnyH_ready (rs := [24]) (by kernel_rfl) (by simp) ?_
      refine AllReadyH.cons (gatL (gatS (gatS (gatS (gatS (gatS (gatS (gatS (gatS (gatS (gatS (gatS (gatS (gatS (gatS (gatS (gatS (gatS (gatS (gatS (gatS (gatS (gatS (gatS (gatS gatZ))))))))))))))))))))))))) (fun K hK => ?_) AllReadyH.nil
      go_simp
      go_at_call 23
      (with_reducible refine (HC5.out _ hHeld.1).mono ?_)
      rintro e V7 ⟨o7, c7, rfl, hi7, hb7⟩
      have HI7 := Lib.hid hi7
      have HV7 := Lib.hid (hHeld.1.trans (hb7.mono hHeld.1.size))
      clear hi7 hb7
      dsimp only
      refine hK.out _ _ ?_ (fun hHeld => ?_)
      · exact HSt.out _ HV7.out
      clear hK K
      try simp only [Act.put, List.setIfInBounds_toArray, List.set_cons_zero, List.set_cons_succ]
      refine wpAnyH_ready (rs := [27]) (by kernel_rfl) (by simp) ?_
      refine AllReadyH.cons (gatL (gatS (gatS (gatS (gatS (gatS (gatS (gatS (gatS (gatS (gatS (gatS (gatS (gatS (gatS (gatS (gatS (gatS (gatS (gatS (gatS (gatS (gatS (gatS (gatS (gatS (gatS (gatS gatZ)))))))))))))))))))))))))))) (fun K hK => ?_) AllReadyH.nil
      go_simp
      go_at_call 24
      (with_reducible refine (HC6.out _ hHeld.1).mono ?_)
      rintro e V8 ⟨o8, c8, rfl, hi8, hb8⟩
      have HI8 := Lib.hid hi8
      have HV8 := Lib.hid (hHeld.1.trans (hb8.mono hHeld.1.size))
      have HI7 := Lib.hid (HI7.out.grown hb8)
      clear hi8 hb8
      dsimp only
      refine hK.out _ _ ?_ (fun hHeld => ?_)
      · exact HSt.out _ HV8.out
      clear hK K
      try simp only [Act.put, List.setIfInBounds_toArray, List.set_cons_zero, List.set_cons_succ]
      refine wpAnyH_ready (rs := [28]) (by kernel_rfl) (by simp) ?_
      refine AllReadyH.cons (gatL (gatS (gatS (gatS (gatS (gatS (gatS (gatS (gatS (gatS (gatS (gatS (gatS (gatS (gatS (gatS (gatS (gatS (gatS (gatS (gatS (gatS (gatS (gatS (gatS (gatS (gatS (gatS (gatS gatZ))))))))))))))))))))))))))))) (fun K hK => ?_) AllReadyH.nil
      go_simp
      go_at_call 18
      (with_reducible refine (sameN_any _ _ _ _ _ _ HI7.out HI8.out).mono ?_)
      rintro e V9 ⟨rfl, hb9⟩
      have HV9 := Lib.hid (hHeld.1.trans (hb9.mono hHeld.1.size))
      clear hb9 HI7 HI8
      dsimp only
      refine hK.out _ _ ?_ (fun hHeld => ?_)
      · exact HSt.out _ HV9.out
      clear hK K
      try simp only [Act.put, List.setIfInBounds_toArray, List.set_cons_zero, List.set_cons_succ]
      refine wpAnyH_take (i := 29) (v := ?_) (gatL (gatS (gatS (gatS (gatS (gatS (gatS (gatS (gatS (gatS (gatS (gatS (gatS (gatS (gatS (gatS (gatS (gatS (gatS (gatS (gatS (gatS (gatS (gatS (gatS (gatS (gatS (gatS (gatS (gatS gatZ)))))))))))))))))))))))))))))) (by kernel_rfl) (by kernel_rfl) (by kernel_rfl) (fun _ _ _ h => h) (Or.inl ⟨by rfl, ?_⟩) (by assumption) ?_
      rotate_left
      · intro w hSw
        try dsimp only at hSw
        go_simp
        all_goals with_reducible rfl
      try simp only [Act.put, List.setIfInBounds_toArray, List.set_cons_zero, List.set_cons_succ]
      refine wpAnyH_take (i := 30) (v := ?_) (gatL (gatS (gatS (gatS (gatS (gatS (gatS (gatS (gatS (gatS (gatS (gatS (gatS (gatS (gatS (gatS (gatS (gatS (gatS (gatS (gatS (gatS (gatS (gatS (gatS (gatS (gatS (gatS (gatS (gatS (gatS gatZ))))))))))))))))))))))))))))))) (by kernel_rfl) (by kernel_rfl) (by kernel_rfl) (fun _ _ _ h => h) (Or.inl ⟨by rfl, ?_⟩) (by assumption) ?_
      rotate_left
      · intro w hSw
        try dsimp only at hSw
        go_simp
        all_goals with_reducible rfl
      try simp only [Act.put, List.setIfInBounds_toArray, List.set_cons_zero, List.set_cons_succ]
      refine wpAnyH_done (by kernel_rfl) ?_ _
      go_wp2_with (fail)
      exact bodyPost_ret (v := .bool true) (by simp [results, Try.results5, go_sem]; try rfl) rfl ⟨rfl, HBw.out _ HV9.out⟩
end Go.Proofs.Ytpbceejjkdmclaa
