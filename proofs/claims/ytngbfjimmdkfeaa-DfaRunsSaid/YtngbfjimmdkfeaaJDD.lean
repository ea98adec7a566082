/- The row DfaRuns: for every automaton with one way, any state, any byte, any text: Next and Run answer as the document's: the law answers true and changes nothing that was there; no premise beyond the row's own. -/
/- Texts joined: Eo PDr. -/
import Derived.Test.YtngbfjimmdkfeaaJDB
import Derived.Test.YtngbfjimmdkfeaaJEh
import Derived.Test.YtngbfjimmdkfeaaJD2
import Derived.Test.YtngbfjimmdkfeaaJD3
import Derived.Test.YtngbfjimmdkfeaaJEk
set_option linter.unusedVariables false
set_option linter.unusedSimpArgs false
namespace Go.Proofs.Ytngbfjimmdkfeaa
open Go.RowKit Go.Shelf

attribute [local go_sem] Oper.semAt_some

set_option maxRecDepth 100000 in
set_option maxHeartbeats 4000000 in
theorem dfaRuns_any (x : Df) (p : DfL) (s : Int) (c : Nat) (hc : c < 256) (t : ByteArray) (w : World) (hx : DfAt w x p) :
    Calls Try.prog 5 #[.agg #[.slice p.ma x.ms.length p.mc, .slice p.aa x.ac.length p.ac], .int .i64 s, .int .u8 (c : Int), .string t] w fun e w' => e = .returned (.bool true) ∧ Below w.heap.size w w' := by
  have h1 := hx.ms.le
  have h2 := hx.ms.max
  have h3 := hx.acc.le
  have h4 := hx.acc.max
  have hlen := hx.len
  rw [hlen] at h1
  have HX := Lib.hid hx
  have HF := Lib.hid (fun (V : World) (h : DfAt V x p) => few4_any x p V h)
  have HK2 := Lib.hid (fun (V : World) (h : DfAt V x p) => refDCheck_any x p V h)
  have HK3 := Lib.hid (fun (V : World) (h : DfAt V x p) => dnext_any x p s c V h hc)
  have HK4 := Lib.hid (fun (V : World) (h : DfAt V x p) => refDNext_any x p s c V h hc)
  have HK5 := Lib.hid (fun (V : World) (h : DfAt V x p) (ht : t.size ≤ 1000) => drun_any x p t V h (by omega))
  have HK6 := Lib.hid (fun (V : World) (h : DfAt V x p) (ht : t.size ≤ 1000) => refDRun_any x p t V h (by omega))
  obtain ⟨rs, ma, mc, aa, ac⟩ := p
  dsimp only at *
  obtain ⟨M, HM⟩ : ∃ M, Hid (x.ms.length = M) := ⟨_, Lib.hid rfl⟩
  obtain ⟨N, HN⟩ : ∃ N, Hid (x.ac.length = N) := ⟨_, Lib.hid rfl⟩
  obtain ⟨Cv, hCv⟩ : ∃ n, Hid (dfB x = n) := ⟨_, Lib.hid rfl⟩
  obtain ⟨Nx, hNx⟩ : ∃ n, Hid (nextP x s c = n) := ⟨_, Lib.hid rfl⟩
  obtain ⟨Rx, hRx⟩ : ∃ n, Hid (drunP x t.data.toList = n) := ⟨_, Lib.hid rfl⟩
  rw [HM.out, HN.out, hCv.out] at HK2
  rw [HM.out, HN.out, hNx.out] at HK3 HK4
  rw [HM.out, HN.out, hRx.out] at HK5 HK6
  have hcI : (c : Int) < 256 := by omega
  rw [HM.out] at h1
  rw [HN.out] at h3
  rw [HM.out, HN.out]
  obtain ⟨F, hF⟩ : ∃ F, Hid (fewD x = F) := ⟨_, Lib.hid rfl⟩
  rw [HM.out, HN.out, hF.out] at HF
  have hA0 := Blk.new w 25 #[.slice ma M mc, .slice aa N ac]
  have hb0 : Below w.heap.size w (w.alloc (.cells #[.slice ma M mc, .slice aa N ac] 25)) := (Below.refl _ w).alloc (Nat.le_refl _) _
  go_enter Try.func5, Try.ntmps5
  go_wp2_with (fail)
  refine (live4_any _).mono ?_
  rintro e w1 ⟨rfl, hb1⟩
  have hA1 := hA0.below hb1 hA0.lt
  have hbw1 := hb0.trans (hb1.mono hb0.size)
  clear hA0 hb0 hb1 hx hlen
  obtain ⟨BN, hBN⟩ : ∃ n, Hid (w.heap.size = n) := ⟨_, Lib.hid rfl⟩
  have Hbw1 := Lib.hid hbw1
  rw [hBN.out] at hA1
  simp only [hBN.out]
  clear hbw1
  have x0 := hA1.cell 0
  have x1 := hA1.cell 1
  have xl := hA1.lt
  simp only [List.getElem?_cons_zero, List.getElem?_cons_succ] at x0 x1
  go_wp2_with (fail)
  refine (HF.out _ (HX.out.grown Hbw1.out)).mono ?_
  rintro e w2 ⟨rfl, hb2⟩
  have hA2 := hA1.below hb2 hA1.lt
  have Hbw2 := Lib.hid (Hbw1.out.trans (hb2.mono Hbw1.out.size))
  clear hA1 hb2 x0 x1 xl HF
  have x0 := hA2.cell 0
  have x1 := hA2.cell 1
  have xl := hA2.lt
  simp only [List.getElem?_cons_zero, List.getElem?_cons_succ] at x0 x1
  cases F
  case false =>
    go_wp2_with (fail)
    exact bodyPost_ret (v := .bool true) (by simp [results, Try.results5, go_sem]; try rfl) rfl ⟨rfl, Hbw2.out⟩
  case true =>
    go_wp2_with (fail)
    refine (HK2.out _ (HX.out.grown Hbw2.out)).mono ?_
    rintro e w3 ⟨rfl, hb3⟩
    have hA3 := hA2.below hb3 hA2.lt
    have Hbw3 := Lib.hid (Hbw2.out.trans (hb3.mono Hbw2.out.size))
    clear hA2 hb3 x0 x1 xl HK2
    have x0 := hA3.cell 0
    have x1 := hA3.cell 1
    have xl := hA3.lt
    simp only [List.getElem?_cons_zero, List.getElem?_cons_succ] at x0 x1
    cases Cv
    case false =>
      simp only [Bool.false_eq_true, if_false]
      go_wp2_with (fail)
      exact bodyPost_ret (v := .bool true) (by simp [results, Try.results5, go_sem]; try rfl) rfl ⟨rfl, Hbw3.out⟩
    case true =>
    simp only [if_true]
    by_cases hlen : 1000 < t.size
    · have hlenI : (1000 : Int) < (t.size : Int) := by omega
      go_wp2_with (fail)
      exact bodyPost_ret (v := .bool true) (by simp [results, Try.results5, go_sem]; try rfl) rfl ⟨rfl, Hbw3.out⟩
    have hlenI : ¬ (1000 : Int) < (t.size : Int) := by omega
    have HT : Hid (t.size ≤ 1000) := Lib.hid (by omega)
    have hbd : Below w3.heap.size w3 (w3.drew) := (Below.refl w3.heap.size w3).drew
    have Hbwd := Lib.hid (Hbw3.out.trans (hbd.mono Hbw3.out.size))
    have hAd : Blk (w3.drew) BN 25 [.slice ma M mc, .slice aa N ac] := hA3.below hbd hA3.lt
    have HSt : Hid (∀ V, Below (w3.drew).heap.size (w3.drew) V → (Below (w3.drew).heap.size (w3.drew) V ∧ V.cell? ⟨BN, 0, none⟩ = some (.slice ma M mc) ∧ V.cell? ⟨BN, 1, none⟩ = some (.slice aa N ac))) := Lib.hid (fun V hV => by
      have h' := hAd.below hV hAd.lt
      exact ⟨hV, by simpa using h'.cell 0, by simpa using h'.cell 1⟩)
    have HC1 : Hid (∀ V, Below (w3.drew).heap.size (w3.drew) V → Calls Try.prog 18 #[.agg #[.slice ma M mc, .slice aa N ac], .int .i64 s, .int .u8 (c : Int)] V fun e V' => e = .returned (.int .i64 Nx) ∧ Below (w3.drew).heap.size (w3.drew) V') := Lib.hid (fun V hV => (HK3.out V (HX.out.grown (Hbwd.out.trans (hV.mono Hbwd.out.size)))).mono (fun e V' ⟨h1, h2⟩ => ⟨h1, hV.trans (h2.mono hV.size)⟩))
    have HC2 : Hid (∀ V, Below (w3.drew).heap.size (w3.drew) V → Calls Try.prog 19 #[.agg #[.slice ma M mc, .slice aa N ac], .int .i64 s, .int .u8 (c : Int)] V fun e V' => e = .returned (.int .i64 Nx) ∧ Below (w3.drew).heap.size (w3.drew) V') := Lib.hid (fun V hV => (HK4.out V (HX.out.grown (Hbwd.out.trans (hV.mono Hbwd.out.size)))).mono (fun e V' ⟨h1, h2⟩ => ⟨h1, hV.trans (h2.mono hV.size)⟩))
    have HC3 : Hid (∀ V, Below (w3.drew).heap.size (w3.drew) V → Calls Try.prog 20 #[.agg #[.slice ma M mc, .slice aa N ac], .string t] V fun e V' => e = .returned (.int .i64 Rx) ∧ Below (w3.drew).heap.size (w3.drew) V') := Lib.hid (fun V hV => (HK5.out V (HX.out.grown (Hbwd.out.trans (hV.mono Hbwd.out.size))) HT.out).mono (fun e V' ⟨h1, h2⟩ => ⟨h1, hV.trans (h2.mono hV.size)⟩))
    have HC4 : Hid (∀ V, Below (w3.drew).heap.size (w3.drew) V → Calls Try.prog 21 #[.agg #[.slice ma M mc, .slice aa N ac], .string t] V fun e V' => e = .returned (.int .i64 Rx) ∧ Below (w3.drew).heap.size (w3.drew) V') := Lib.hid (fun V hV => (HK6.out V (HX.out.grown (Hbwd.out.trans (hV.mono Hbwd.out.size))) HT.out).mono (fun e V' ⟨h1, h2⟩ => ⟨h1, hV.trans (h2.mono hV.size)⟩))
    clear hbd hAd hA3 HK3 HK4 HK5 HK6 x0 x1 xl
    go_wp2_with (fail)
    refine wp_region_held_drew (S := fun w' => (Below (w3.drew).heap.size (w3.drew) w' ∧ w'.cell? ⟨BN, 0, none⟩ = some (.slice ma M mc) ∧ w'.cell? ⟨BN, 1, none⟩ = some (.slice aa N ac))) (by kernel_rfl) ?_ (fun hHeld => ?_)
    · exact HSt.out _ (Below.refl _ _)
    refine wpAnyH_take (i := 0) (v := ?_) (gatL gatZ) (by kernel_rfl) (by kernel_rfl) (by kernel_rfl) (fun _ _ _ h => h) (Or.inl ⟨by rfl, ?_⟩) (by assumption) ?_
    rotate_left
    · intro w hSw
      try dsimp only at hSw
      go_simp
      all_goals with_reducible rfl
    try simp only [Act.put, List.setIfInBounds_toArray, List.set_cons_zero, List.set_cons_succ]
    refine wpAnyH_take (i := 1) (v := ?_) (gatL (gatS gatZ)) (by kernel_rfl) (by kernel_rfl) (by kernel_rfl) (fun _ _ _ h => h) (Or.inl ⟨by rfl, ?_⟩) (by assumption) ?_
    rotate_left
    · intro w hSw
      try dsimp only at hSw
      go_simp
      all_goals with_reducible rfl
    try simp only [Act.put, List.setIfInBounds_toArray, List.set_cons_zero, List.set_cons_succ]
    refine wpAnyH_take (i := 2) (v := ?_) (gatL (gatS (gatS gatZ))) (by kernel_rfl) (by kernel_rfl) (by kernel_rfl) (fun _ _ _ h => h) (Or.inl ⟨by rfl, ?_⟩) (by assumption) ?_
    rotate_left
    · intro w hSw
      try dsimp only at hSw
      go_simp
      all_goals with_reducible rfl
    try simp only [Act.put, List.setIfInBounds_toArray, List.set_cons_zero, List.set_cons_succ]
    refine wpAnyH_take (i := 3) (v := ?_) (gatL (gatS (gatS (gatS gatZ)))) (by kernel_rfl) (by kernel_rfl) (by kernel_rfl) (fun _ _ _ h => h) (Or.inl ⟨by rfl, ?_⟩) (by assumption) ?_
    rotate_left
    · intro w hSw
      try dsimp only at hSw
      go_simp
      all_goals with_reducible rfl
    try simp only [Act.put, List.setIfInBounds_toArray, List.set_cons_zero, List.set_cons_succ]
    refine wpAnyH_take (i := 4) (v := ?_) (gatL (gatS (gatS (gatS (gatS gatZ))))) (by kernel_rfl) (by kernel_rfl) (by kernel_rfl) (fun _ _ _ h => h) (Or.inl ⟨by rfl, ?_⟩) (by assumption) ?_
    rotate_left
    · intro w hSw
      try dsimp only at hSw
      go_simp
      all_goals with_reducible rfl
    try simp only [Act.put, List.setIfInBounds_toArray, List.set_cons_zero, List.set_cons_succ]
    refine wpAnyH_take (i := 6) (v := ?_) (gatL (gatS (gatS (gatS (gatS (gatS (gatS gatZ))))))) (by kernel_rfl) (by kernel_rfl) (by kernel_rfl) (fun _ _ _ h => h) (Or.inl ⟨by rfl, ?_⟩) (by assumption) ?_
    rotate_left
    · intro w hSw
      try dsimp only at hSw
      go_simp
      all_goals with_reducible rfl
    try simp only [Act.put, List.setIfInBounds_toArray, List.set_cons_zero, List.set_cons_succ]
    refine wpAnyH_take (i := 7) (v := ?_) (gatL (gatS (gatS (gatS (gatS (gatS (gatS (gatS gatZ)))))))) (by kernel_rfl) (by kernel_rfl) (by kernel_rfl) (fun _ _ _ h => h) (Or.inl ⟨by rfl, ?_⟩) (by assumption) ?_
    rotate_left
    · intro w hSw
      try dsimp only at hSw
      go_simp
      all_goals with_reducible rfl
    try simp only [Act.put, List.setIfInBounds_toArray, List.set_cons_zero, List.set_cons_succ]
    refine wpAnyH_take (i := 8) (v := ?_) (gatL (gatS (gatS (gatS (gatS (gatS (gatS (gatS (gatS gatZ))))))))) (by kernel_rfl) (by kernel_rfl) (by kernel_rfl) (fun _ _ _ h => h) (Or.inl ⟨by rfl, ?_⟩) (by assumption) ?_
    rotate_left
    · intro w hSw
      try dsimp only at hSw
      go_simp
      all_goals with_reducible rfl
    try simp only [Act.put, List.setIfInBounds_toArray, List.set_cons_zero, List.set_cons_succ]
    refine wpAnyH_ready (rs := [5]) (by kernel_rfl) (by simp) ?_
    refine AllReadyH.cons (gatL (gatS (gatS (gatS (gatS (gatS gatZ)))))) (fun K hK => ?_) AllReadyH.nil
    go_simp
    go_at_call 18
    (with_reducible refine (HC1.out _ hHeld.1).mono ?_)
    rintro e V1 ⟨rfl, hV1⟩
    have HV1 := Lib.hid hV1
    clear hV1
    dsimp only
    refine hK.out _ _ ?_ (fun hHeld => ?_)
    · exact HSt.out _ HV1.out
    clear hK K
    try simp only [Act.put, List.setIfInBounds_toArray, List.set_cons_zero, List.set_cons_succ]
    refine wpAnyH_ready (rs := [9]) (by kernel_rfl) (by simp) ?_
    refine AllReadyH.cons (gatL (gatS (gatS (gatS (gatS (gatS (gatS (gatS (gatS (gatS gatZ)))))))))) (fun K hK => ?_) AllReadyH.nil
    go_simp
    go_at_call 19
    (with_reducible refine (HC2.out _ hHeld.1).mono ?_)
    rintro e V2 ⟨rfl, hV2⟩
    have HV2 := Lib.hid hV2
    clear hV2
    dsimp only
    refine hK.out _ _ ?_ (fun hHeld => ?_)
    · exact HSt.out _ HV2.out
    clear hK K
    try simp only [Act.put, List.setIfInBounds_toArray, List.set_cons_zero, List.set_cons_succ]
    refine wpAnyH_take (i := 10) (v := ?_) (gatL (gatS (gatS (gatS (gatS (gatS (gatS (gatS (gatS (gatS (gatS gatZ))))))))))) (by kernel_rfl) (by kernel_rfl) (by kernel_rfl) (fun _ _ _ h => h) (Or.inl ⟨by rfl, ?_⟩) (by assumption) ?_
    rotate_left
    · intro w hSw
      try dsimp only at hSw
      go_simp
      all_goals with_reducible rfl
    try simp only [Act.put, List.setIfInBounds_toArray, List.set_cons_zero, List.set_cons_succ]
    refine wpAnyH_take (i := 11) (v := ?_) (gatL (gatS (gatS (gatS (gatS (gatS (gatS (gatS (gatS (gatS (gatS (gatS gatZ)))))))))))) (by kernel_rfl) (by kernel_rfl) (by kernel_rfl) (fun _ _ _ h => h) (Or.inl ⟨by rfl, ?_⟩) (by assumption) ?_
    rotate_left
    · intro w hSw
      try dsimp only at hSw
      go_simp
      all_goals with_reducible rfl
    try simp only [Act.put, List.setIfInBounds_toArray, List.set_cons_zero, List.set_cons_succ]
    refine wpAnyH_take (i := 12) (v := ?_) (gatL (gatS (gatS (gatS (gatS (gatS (gatS (gatS (gatS (gatS (gatS (gatS (gatS gatZ))))))))))))) (by kernel_rfl) (by kernel_rfl) (by kernel_rfl) (fun _ _ _ h => h) (Or.inl ⟨by rfl, ?_⟩) (by assumption) ?_
    rotate_left
    · intro w hSw
      try dsimp only at hSw
      go_simp
      all_goals with_reducible rfl
    try simp only [Act.put, List.setIfInBounds_toArray, List.set_cons_zero, List.set_cons_succ]
    refine wpAnyH_take (i := 13) (v := ?_) (gatL (gatS (gatS (gatS (gatS (gatS (gatS (gatS (gatS (gatS (gatS (gatS (gatS (gatS gatZ)))))))))))))) (by kernel_rfl) (by kernel_rfl) (by kernel_rfl) (fun _ _ _ h => h) (Or.inl ⟨by rfl, ?_⟩) (by assumption) ?_
    rotate_left
    · intro w hSw
      try dsimp only at hSw
      go_simp
      all_goals with_reducible rfl
    try simp only [Act.put, List.setIfInBounds_toArray, List.set_cons_zero, List.set_cons_succ]
    refine wpAnyH_take (i := 14) (v := ?_) (gatL (gatS (gatS (gatS (gatS (gatS (gatS (gatS (gatS (gatS (gatS (gatS (gatS (gatS (gatS gatZ))))))))))))))) (by kernel_rfl) (by kernel_rfl) (by kernel_rfl) (fun _ _ _ h => h) (Or.inl ⟨by rfl, ?_⟩) (by assumption) ?_
    rotate_left
    · intro w hSw
      try dsimp only at hSw
      go_simp
      all_goals with_reducible rfl
    try simp only [Act.put, List.setIfInBounds_toArray, List.set_cons_zero, List.set_cons_succ]
    refine wpAnyH_take (i := 16) (v := ?_) (gatL (gatS (gatS (gatS (gatS (gatS (gatS (gatS (gatS (gatS (gatS (gatS (gatS (gatS (gatS (gatS (gatS gatZ))))))))))))))))) (by kernel_rfl) (by kernel_rfl) (by kernel_rfl) (fun _ _ _ h => h) (Or.inl ⟨by rfl, ?_⟩) (by assumption) ?_
    rotate_left
    · intro w hSw
      try dsimp only at hSw
      go_simp
      all_goals with_reducible rfl
    try simp only [Act.put, List.setIfInBounds_toArray, List.set_cons_zero, List.set_cons_succ]
    refine wpAnyH_take (i := 17) (v := ?_) (gatL (gatS (gatS (gatS (gatS (gatS (gatS (gatS (gatS (gatS (gatS (gatS (gatS (gatS (gatS (gatS (gatS (gatS gatZ)))))))))))))))))) (by kernel_rfl) (by kernel_rfl) (by kernel_rfl) (fun _ _ _ h => h) (Or.inl ⟨by rfl, ?_⟩) (by assumption) ?_
    rotate_left
    · intro w hSw
      try dsimp only at hSw
      go_simp
      all_goals with_reducible rfl
    try simp only [Act.put, List.setIfInBounds_toArray, List.set_cons_zero, List.set_cons_succ]
    refine wpAnyH_ready (rs := [15]) (by kernel_rfl) (by simp) ?_
    refine AllReadyH.cons (gatL (gatS (gatS (gatS (gatS (gatS (gatS (gatS (gatS (gatS (gatS (gatS (gatS (gatS (gatS (gatS gatZ)))))))))))))))) (fun K hK => ?_) AllReadyH.nil
    go_simp
    go_at_call 20
    (with_reducible refine (HC3.out _ hHeld.1).mono ?_)
    rintro e V3 ⟨rfl, hV3⟩
    have HV3 := Lib.hid hV3
    clear hV3
    dsimp only
    refine hK.out _ _ ?_ (fun hHeld => ?_)
    · exact HSt.out _ HV3.out
    clear hK K
    try simp only [Act.put, List.setIfInBounds_toArray, List.set_cons_zero, List.set_cons_succ]
    refine wpAnyH_ready (rs := [18]) (by kernel_rfl) (by simp) ?_
    refine AllReadyH.cons (gatL (gatS (gatS (gatS (gatS (gatS (gatS (gatS (gatS (gatS (gatS (gatS (gatS (gatS (gatS (gatS (gatS (gatS (gatS gatZ))))))))))))))))))) (fun K hK => ?_) AllReadyH.nil
    go_simp
    go_at_call 21
    (with_reducible refine (HC4.out _ hHeld.1).mono ?_)
    rintro e V4 ⟨rfl, hV4⟩
    have HV4 := Lib.hid hV4
    clear hV4
    dsimp only
    refine hK.out _ _ ?_ (fun hHeld => ?_)
    · exact HSt.out _ HV4.out
    clear hK K
    try simp only [Act.put, List.setIfInBounds_toArray, List.set_cons_zero, List.set_cons_succ]
    refine wpAnyH_take (i := 19) (v := ?_) (gatL (gatS (gatS (gatS (gatS (gatS (gatS (gatS (gatS (gatS (gatS (gatS (gatS (gatS (gatS (gatS (gatS (gatS (gatS (gatS gatZ)))))))))))))))))))) (by kernel_rfl) (by kernel_rfl) (by kernel_rfl) (fun _ _ _ h => h) (Or.inl ⟨by rfl, ?_⟩) (by assumption) ?_
    rotate_left
    · intro w hSw
      try dsimp only at hSw
      go_simp
      all_goals with_reducible rfl
    try simp only [Act.put, List.setIfInBounds_toArray, List.set_cons_zero, List.set_cons_succ]
    refine wpAnyH_take (i := 20) (v := ?_) (gatL (gatS (gatS (gatS (gatS (gatS (gatS (gatS (gatS (gatS (gatS (gatS (gatS (gatS (gatS (gatS (gatS (gatS (gatS (gatS (gatS gatZ))))))))))))))))))))) (by kernel_rfl) (by kernel_rfl) (by kernel_rfl) (fun _ _ _ h => h) (Or.inl ⟨by rfl, ?_⟩) (by assumption) ?_
    rotate_left
    · intro w hSw
      try dsimp only at hSw
      go_simp
      all_goals with_reducible rfl
    try simp only [Act.put, List.setIfInBounds_toArray, List.set_cons_zero, List.set_cons_succ]
    refine wpAnyH_take (i := 21) (v := ?_) (gatL (gatS (gatS (gatS (gatS (gatS (gatS (gatS (gatS (gatS (gatS (gatS (gatS (gatS (gatS (gatS (gatS (gatS (gatS (gatS (gatS (gatS gatZ)))))))))))))))))))))) (by kernel_rfl) (by kernel_rfl) (by kernel_rfl) (fun _ _ _ h => h) (Or.inl ⟨by rfl, ?_⟩) (by assumption) ?_
    rotate_left
    · intro w hSw
      try dsimp only at hSw
      go_simp
      all_goals with_reducible rfl
    try simp only [Act.put, List.setIfInBounds_toArray, List.set_cons_zero, List.set_cons_succ]
    refine wpAnyH_done (by kernel_rfl) ?_ _
    go_wp2_with (fail)
    exact bodyPost_ret (v := .bool true) (by simp [results, Try.results5, go_sem]; try rfl) rfl ⟨rfl, Hbwd.out.trans (HV4.out.mono Hbwd.out.size)⟩
end Go.Proofs.Ytngbfjimmdkfeaa

namespace Go.Proofs.Ytngbfjimmdkfeaa
open Go.ChangeShapes Go.WideShapes Go.ChangeAt Go.RowKit

theorem trodAll_4 {H : Type} {enc : TypeId × Value → H} {P : Program} {w : World} {base : Nat} {spare : Nat → Bool} {held : Bool} {t t' t'' t3 : TypeId} {args : Array Value} {ds : List (DataW H)} {ps : List MemPlace} (h : DataW.TrodAll enc P w base spare held [t, t', t'', t3] args.toList ds ps) :
    ∃ v v' v'' v3 d d' d'' d3 p p' p'' p3, args = #[v, v', v'', v3] ∧ ds = [d, d', d'', d3] ∧ ps = p ++ p' ++ p'' ++ p3 ∧ DataW.Trod enc P w base spare held t v d p ∧ DataW.Trod enc P w base spare held t' v' d' p' ∧ DataW.Trod enc P w base spare held t'' v'' d'' p'' ∧ DataW.Trod enc P w base spare held t3 v3 d3 p3 := by
  obtain ⟨v, vs, d, ds', p, q, hargs, rfl, rfl, hd, hrest⟩ := trodAll_cons h
  obtain ⟨v', vs', d', ds'', p', q', rfl, rfl, rfl, hd', hrest'⟩ := trodAll_cons hrest
  obtain ⟨v'', vs'', d'', ds3, p'', q'', rfl, rfl, rfl, hd'', hrest''⟩ := trodAll_cons hrest'
  obtain ⟨v3, vs3, d3, ds4, p3, q3, rfl, rfl, rfl, hd3, hrest3⟩ := trodAll_cons hrest''
  obtain ⟨rfl, rfl, rfl⟩ := trodAll_nil hrest3
  exact ⟨v, v', v'', v3, d, d', d'', d3, p, p', p'', p3, by cases args; simp_all, rfl, by simp, hd, hd', hd'', hd3⟩

set_option maxRecDepth 100000 in
theorem dfaRuns_lifted (os : Os) (started : os.Started) (H : Type) (enc : TypeId × Value → H) :
    ReturnsInHanded {} Try.checked os 5 .any (Rows.dfaRunsSpec.pre6 enc Try.prog Try.f5 Rows.dfaRunsRow.domain false) (Rows.dfaRunsSpec.post enc Try.prog Try.f5 false true false false) := by
  refine returnsInHanded_of_change (C := Try.checked) Try.own started (by kernel_rfl) Try.func5
    (ChangeSpec.witness6 (enc := enc) (C := Try.checked) false ⟨#[], #[.agg #[.slice none 0 0, .slice none 0 0], .int .i64 0, .int .u8 0, .string ⟨#[]⟩], []⟩ 8 (by kernel_rfl) (by kernel_rfl) (by kernel_rfl) (by kernel_rfl)) ?_
  intro W base args ds gs before hval0 hW _ _
  have hval : ∀ (j : Nat) t v, Try.f5.params[j]? = some t → args[j]? = some v → Value.okWide Try.prog W .any base t v := hval0
  have hW' := hW
  obtain ⟨p, q, hA0, hV, rfl, hfz, hnd⟩ := hW
  have hA : DataW.TrodAll enc Try.prog W 0 (fun _ => true) true Try.f5.params.toList args.toList ds p := hA0
  rw [Try.params5] at hA hval
  obtain ⟨v0, v1, v2, v3, d0, d1, d2, d3, p0, p1, p2, p3, rfl, rfl, rfl, h0, h1, h2, h3⟩ := trodAll_4 hA
  obtain ⟨x, l, rfl, hX⟩ := open_dfa (hval 0 25 v0 rfl rfl) h0
  obtain ⟨s, rfl, _⟩ := open_int Try.underlying3 (hval 1 3 v1 rfl rfl) h1
  obtain ⟨c, hc, rfl⟩ := open_u83 (hval 2 5 v2 rfl rfl) h2
  obtain ⟨t, rfl, _⟩ := open_str3 (hval 3 9 v3 rfl rfl) h3
  refine (dfaRuns_any x l s c hc t W hX).mono fun e W' ⟨he, hw⟩ => ?_
  subst he
  exact ⟨_, rfl, law_post hW' rfl rfl (by kernel_rfl) (by rw [Try.params5]; intro t ht; simp at ht; rcases ht with rfl | rfl | rfl | rfl; exact ⟨by kernel_rfl, of_decide_eq_true (by kernel_rfl)⟩; exact ⟨by kernel_rfl, of_decide_eq_true (by kernel_rfl)⟩; exact ⟨by kernel_rfl, of_decide_eq_true (by kernel_rfl)⟩; exact ⟨by kernel_rfl, of_decide_eq_true (by kernel_rfl)⟩) hw⟩

theorem dfaRuns_holds : Rows.DfaRunsSaid :=
  OpenClaim.holds_of_wide 5 Try.f5 rfl rfl rfl rfl rfl rfl rfl ⟨rfl, rfl, rfl, rfl, rfl⟩ rfl rfl rfl rfl rfl (by kernel_rfl) Try.func5 (by kernel_rfl)
    (of_decide_eq_true (by kernel_rfl)) (by unfold Func.isWrapper; first | (rw [if_pos (by decide +kernel)]; kernel_rfl) | (rw [if_neg (by decide +kernel)]; exact ⟨rfl, rfl⟩))
    (fun os started H enc _ => dfaRuns_lifted os started H enc)
end Go.Proofs.Ytngbfjimmdkfeaa

