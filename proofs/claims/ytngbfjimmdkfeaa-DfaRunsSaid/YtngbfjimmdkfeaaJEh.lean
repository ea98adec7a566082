/- Texts joined: Eh En. -/
import Derived.Test.YtngbfjimmdkfeaaJD1
import Derived.Test.YtngbfjimmdkfeaaJK3
import Derived.Test.YtngbfjimmdkfeaaJDB
import Derived.Test.YtngbfjimmdkfeaaJD2
import Derived.Test.YtngbfjimmdkfeaaJD3
set_option linter.unusedVariables false
set_option linter.unusedSimpArgs false
namespace Go.Proofs.Ytngbfjimmdkfeaa
open Go.RowKit Go.Shelf

attribute [local go_sem] Oper.semAt_some

/-- Small enough to be played. -/
def fewD (x : Df) : Bool := decide (x.ms.length ≤ 3000) && decide (x.ac.length ≤ 3000) && x.ms.all (fun l => decide (l.length ≤ 300))

set_option maxRecDepth 100000 in
set_option maxHeartbeats 2000000 in
theorem few4_any (x : Df) (p : DfL) (w : World) (hx : DfAt w x p) :
    Calls Try.prog 10 #[.agg #[.slice p.ma x.ms.length p.mc, .slice p.aa x.ac.length p.ac]] w fun e w' => e = .returned (.bool (fewD x)) ∧ Below w.heap.size w w' := by
  have h1 := hx.ms.le
  have h2 := hx.ms.max
  have h3 := hx.acc.le
  have h4 := hx.acc.max
  have hlen := hx.len
  rw [hlen] at h1
  have HX := Lib.hid hx
  have HLN := Lib.hid hlen
  clear hx hlen
  obtain ⟨R, hR⟩ : ∃ R, Hid (fewD x = R) := ⟨_, Lib.hid rfl⟩
  have HS : Hid (R = (decide (x.ms.length ≤ 3000) && decide (x.ac.length ≤ 3000) && x.ms.all (fun l => decide (l.length ≤ 300)))) := Lib.hid (by rw [← hR.out]; rfl)
  rw [hR.out]
  obtain ⟨M, HM⟩ : ∃ M, Hid (x.ms.length = M) := ⟨_, Lib.hid rfl⟩
  obtain ⟨N, HN⟩ : ∃ N, Hid (x.ac.length = N) := ⟨_, Lib.hid rfl⟩
  rw [HM.out, HN.out] at HS
  rw [HM.out] at h1 ⊢
  rw [HN.out] at h3 ⊢
  have hA0 := Blk.new w 25 #[.slice p.ma M p.mc, .slice p.aa N p.ac]
  have hb0 := up_one w (.cells #[.slice p.ma M p.mc, .slice p.aa N p.ac] 25)
  have x0 := hA0.cell 0
  have x1 := hA0.cell 1
  have xl := hA0.lt
  simp only [List.getElem?_cons_zero, List.getElem?_cons_succ] at x0 x1
  clear hR
  by_cases g1 : 3000 < M
  · have g1I : (3000 : Int) < (M : Int) := by omega
    have HF : Hid (R = false) := Lib.hid (by rw [HS.out, decide_eq_false (by omega : ¬ M ≤ 3000)]; rfl)
    go_enter Try.func10, Try.ntmps10
    go_wp2_with (fail)
    exact bodyPost_ret (v := .bool false) (by simp [results, Try.results10, go_sem]; try rfl) rfl ⟨ret_bool HF.out.symm, hb0⟩
  have g1I : ¬ (3000 : Int) < (M : Int) := by omega
  by_cases g2 : 3000 < N
  · have g2I : (3000 : Int) < (N : Int) := by omega
    have HF : Hid (R = false) := Lib.hid (by rw [HS.out, decide_eq_false (by omega : ¬ N ≤ 3000), Bool.and_false]; rfl)
    go_enter Try.func10, Try.ntmps10
    go_wp2_with (fail)
    exact bodyPost_ret (v := .bool false) (by simp [results, Try.results10, go_sem]; try rfl) rfl ⟨ret_bool HF.out.symm, hb0⟩
  have g2I : ¬ (3000 : Int) < (N : Int) := by omega
  have HS1 : Hid (R = x.ms.all (fun l => decide (l.length ≤ 300))) := Lib.hid (by rw [HS.out, decide_eq_true (by omega : M ≤ 3000), decide_eq_true (by omega : N ≤ 3000), Bool.true_and, Bool.true_and])
  clear HS
  have Hb0 := Lib.hid hb0
  clear hb0
  go_enter Try.func10, Try.ntmps10
  go_wp2_with (fail)
  go_loopw [4, 18] (fun _ iv wr => ∃ k : Nat, k ≤ M ∧ iv = .int .i64 (k : Int) ∧ (R = (x.ms.drop k).all (fun l => decide (l.length ≤ 300))) ∧ Below w.heap.size w wr) (fun _ iv _ => M - (intOf iv).toNat)
  case atStart => exact ⟨0, Nat.zero_le _, rfl, HS1.out, Hb0.out⟩
  case round =>
    obtain ⟨k, hk, rfl, hall, hbr⟩ := hrel
    have Hall := Lib.hid hall
    clear x0 x1 xl hall
    by_cases hlt : k < M
    · have hkI : (k : Int) < (M : Int) := by omega
      have hkI0 : (0 : Int) ≤ (k : Int) := by omega
      have hkm : k < x.ms.length := by rw [HM.out]; exact hlt
      have hkr : k < p.rs.length := by rw [HLN.out]; exact hkm
      obtain ⟨b, off, hma⟩ := HX.out.ms.at_ k hkr
      have c0 := (HX.out.ms.grown hbr).cell b off hma k hkr
      have hgx : Hid (x.ms[k] = p.rs[k].l) := Lib.hid (by
        have := HX.out.eq
        simp only [← this, List.getElem_map])
      have hmv := (HX.out.ms.mvs _ (List.getElem_mem hkr)).grown hbr
      have hdr : Hid (x.ms.drop k = x.ms[k] :: x.ms.drop (k + 1)) := Lib.hid (List.drop_eq_getElem_cons hkm)
      obtain ⟨d, hd⟩ : ∃ v, Hid (p.rs[k] = v) := ⟨_, Lib.hid rfl⟩
      rw [hd.out] at c0 hmv hgx
      rw [hgx.out] at hdr
      have hbl := World.block_lt_of_cell? _ _ c0
      have hql : d.l.length ≤ d.c ∧ d.c ≤ 9223372036854775807 := ⟨hmv.le, hmv.max⟩
      have Hq : Hid (R = (decide (d.l.length ≤ 300) && (x.ms.drop (k + 1)).all (fun l => decide (l.length ≤ 300)))) := Lib.hid (by rw [Hall.out, hdr.out, List.all_cons])
      obtain ⟨Q, hQ⟩ : ∃ Q, Hid (d.l.length = Q) := ⟨_, Lib.hid rfl⟩
      simp only [MvD.v, hQ.out] at c0
      rw [hQ.out] at hql Hq
      obtain ⟨pa, hpa⟩ : ∃ v, Hid (p.ma = v) := ⟨_, Lib.hid rfl⟩
      rw [hpa.out] at hma ⊢
      subst hma
      have HB := Lib.hid hbr
      clear hbr hmv hdr
      by_cases hq : 300 < Q
      · have hqI : (300 : Int) < (Q : Int) := by omega
        have HF : Hid (R = false) := Lib.hid (by rw [Hq.out, decide_eq_false (by omega : ¬ Q ≤ 300)]; rfl)
        go_wp2_with (fail)
        exact bodyPost_ret (v := .bool false) (by simp [results, Try.results10, go_sem]; try rfl) rfl ⟨ret_bool HF.out.symm, HB.out⟩
      · have hqI : ¬ (300 : Int) < (Q : Int) := by omega
        have HN : Hid (R = (x.ms.drop (k + 1)).all (fun l => decide (l.length ≤ 300))) := Lib.hid (by rw [Hq.out, decide_eq_true (by omega : Q ≤ 300), Bool.true_and])
        go_wp2_with (fail)
        exact ⟨⟨k + 1, by omega, by simp, HN.out, HB.out⟩, by simp [intOf]; omega⟩
    · obtain rfl : M = k := by omega
      have hkI : ¬ (M : Int) < (M : Int) := by omega
      have HF : Hid (R = true) := Lib.hid (by rw [Hall.out, List.drop_eq_nil_of_le (by rw [HM.out]; exact Nat.le_refl _)]; rfl)
      have HB := Lib.hid hbr
      clear hbr
      go_wp2_with (fail)
      exact bodyPost_ret (v := .bool true) (by simp [results, Try.results10, go_sem]; try rfl) rfl ⟨ret_bool HF.out.symm, HB.out⟩
end Go.Proofs.Ytngbfjimmdkfeaa

namespace Go.Proofs.Ytngbfjimmdkfeaa
open Go.RowKit Go.Shelf

attribute [local go_sem] Oper.semAt_some

set_option maxRecDepth 100000 in
set_option maxHeartbeats 4000000 in
theorem dfaChecks_any (x : Df) (p : DfL) (w : World) (hx : DfAt w x p) :
    Calls Try.prog 3 #[.agg #[.slice p.ma x.ms.length p.mc, .slice p.aa x.ac.length p.ac]] w fun e w' => e = .returned (.bool true) ∧ Below w.heap.size w w' := by
  have h1 := hx.ms.le
  have h2 := hx.ms.max
  have h3 := hx.acc.le
  have h4 := hx.acc.max
  have hlen := hx.len
  rw [hlen] at h1
  have HX := Lib.hid hx
  have HF := Lib.hid (fun (V : World) (h : DfAt V x p) => few4_any x p V h)
  have HK1 := Lib.hid (fun (V : World) (h : DfAt V x p) => dcheck_any x p V h)
  have HK2 := Lib.hid (fun (V : World) (h : DfAt V x p) => refDCheck_any x p V h)
  obtain ⟨rs, ma, mc, aa, ac⟩ := p
  dsimp only at *
  obtain ⟨M, HM⟩ : ∃ M, Hid (x.ms.length = M) := ⟨_, Lib.hid rfl⟩
  obtain ⟨N, HN⟩ : ∃ N, Hid (x.ac.length = N) := ⟨_, Lib.hid rfl⟩
  obtain ⟨Cv, hCv⟩ : ∃ n, Hid ((if dfB x then (0 : Int) else 30) = n) := ⟨_, Lib.hid rfl⟩
  rw [HM.out, HN.out, hCv.out] at HK1 HK2
  rw [HM.out] at h1
  rw [HN.out] at h3
  rw [HM.out, HN.out]
  obtain ⟨F, hF⟩ : ∃ F, Hid (fewD x = F) := ⟨_, Lib.hid rfl⟩
  rw [HM.out, HN.out, hF.out] at HF
  have hA0 := Blk.new w 25 #[.slice ma M mc, .slice aa N ac]
  have hb0 : Below w.heap.size w (w.alloc (.cells #[.slice ma M mc, .slice aa N ac] 25)) := (Below.refl _ w).alloc (Nat.le_refl _) _
  go_enter Try.func3, Try.ntmps3
  go_wp2_with (fail)
  refine (live4_any _).mono ?_
  rintro e w1 ⟨rfl, hb1⟩
  have hA1 := hA0.below hb1 hA0.lt
  have hbw1 := hb0.trans (hb1.mono hb0.size)
  clear hA0 hb0 hb1 hx hlen
  obtain ⟨BN, hBN⟩ : ∃ n, Hid (w.heap.size = n) := ⟨_, Lib.hid rfl⟩
  have Hbw1 := Lib.hid hbw1
  rw [hBN.out] at hA1
  simp only [hBN.out]
  clear hbw1
  have x0 := hA1.cell 0
  have x1 := hA1.cell 1
  have xl := hA1.lt
  simp only [List.getElem?_cons_zero, List.getElem?_cons_succ] at x0 x1
  go_wp2_with (fail)
  refine (HF.out _ (HX.out.grown Hbw1.out)).mono ?_
  rintro e w2 ⟨rfl, hb2⟩
  have hA2 := hA1.below hb2 hA1.lt
  have Hbw2 := Lib.hid (Hbw1.out.trans (hb2.mono Hbw1.out.size))
  clear hA1 hb2 x0 x1 xl HF
  have x0 := hA2.cell 0
  have x1 := hA2.cell 1
  have xl := hA2.lt
  simp only [List.getElem?_cons_zero, List.getElem?_cons_succ] at x0 x1
  cases F
  case false =>
    go_wp2_with (fail)
    exact bodyPost_ret (v := .bool true) (by simp [results, Try.results3, go_sem]; try rfl) rfl ⟨rfl, Hbw2.out⟩
  case true =>
    have hbd : Below w2.heap.size w2 (w2.drew) := (Below.refl w2.heap.size w2).drew
    have Hbwd := Lib.hid (Hbw2.out.trans (hbd.mono Hbw2.out.size))
    have hAd : Blk (w2.drew) BN 25 [.slice ma M mc, .slice aa N ac] := hA2.below hbd hA2.lt
    have HSt : Hid (∀ V, Below (w2.drew).heap.size (w2.drew) V → (Below (w2.drew).heap.size (w2.drew) V ∧ V.cell? ⟨BN, 0, none⟩ = some (.slice ma M mc) ∧ V.cell? ⟨BN, 1, none⟩ = some (.slice aa N ac))) := Lib.hid (fun V hV => by
      have h' := hAd.below hV hAd.lt
      exact ⟨hV, by simpa using h'.cell 0, by simpa using h'.cell 1⟩)
    have HC1 : Hid (∀ V, Below (w2.drew).heap.size (w2.drew) V → Calls Try.prog 11 #[.agg #[.slice ma M mc, .slice aa N ac]] V fun e V' => e = .returned (.int .i64 Cv) ∧ Below (w2.drew).heap.size (w2.drew) V') := Lib.hid (fun V hV => (HK1.out V (HX.out.grown (Hbwd.out.trans (hV.mono Hbwd.out.size)))).mono (fun e V' ⟨h1, h2⟩ => ⟨h1, hV.trans (h2.mono hV.size)⟩))
    have HC2 : Hid (∀ V, Below (w2.drew).heap.size (w2.drew) V → Calls Try.prog 12 #[.agg #[.slice ma M mc, .slice aa N ac]] V fun e V' => e = .returned (.int .i64 Cv) ∧ Below (w2.drew).heap.size (w2.drew) V') := Lib.hid (fun V hV => (HK2.out V (HX.out.grown (Hbwd.out.trans (hV.mono Hbwd.out.size)))).mono (fun e V' ⟨h1, h2⟩ => ⟨h1, hV.trans (h2.mono hV.size)⟩))
    clear hbd hAd hA2 HK1 HK2 x0 x1 xl
    go_wp2_with (fail)
    refine wp_region_held_drew (S := fun w' => (Below (w2.drew).heap.size (w2.drew) w' ∧ w'.cell? ⟨BN, 0, none⟩ = some (.slice ma M mc) ∧ w'.cell? ⟨BN, 1, none⟩ = some (.slice aa N ac))) (by kernel_rfl) ?_ (fun hHeld => ?_)
    · exact HSt.out _ (Below.refl _ _)
    refine wpAnyH_take (i := 0) (v := ?_) (gatL gatZ) (by kernel_rfl) (by kernel_rfl) (by kernel_rfl) (fun _ _ _ h => h) (Or.inl ⟨by rfl, ?_⟩) (by assumption) ?_
    rotate_left
    · intro w hSw
      try dsimp only at hSw
      go_simp
      all_goals with_reducible rfl
    try simp only [Act.put, List.setIfInBounds_toArray, List.set_cons_zero, List.set_cons_succ]
    refine wpAnyH_take (i := 1) (v := ?_) (gatL (gatS gatZ)) (by kernel_rfl) (by kernel_rfl) (by kernel_rfl) (fun _ _ _ h => h) (Or.inl ⟨by rfl, ?_⟩) (by assumption) ?_
    rotate_left
    · intro w hSw
      try dsimp only at hSw
      go_simp
      all_goals with_reducible rfl
    try simp only [Act.put, List.setIfInBounds_toArray, List.set_cons_zero, List.set_cons_succ]
    refine wpAnyH_take (i := 2) (v := ?_) (gatL (gatS (gatS gatZ))) (by kernel_rfl) (by kernel_rfl) (by kernel_rfl) (fun _ _ _ h => h) (Or.inl ⟨by rfl, ?_⟩) (by assumption) ?_
    rotate_left
    · intro w hSw
      try dsimp only at hSw
      go_simp
      all_goals with_reducible rfl
    try simp only [Act.put, List.setIfInBounds_toArray, List.set_cons_zero, List.set_cons_succ]
    refine wpAnyH_take (i := 4) (v := ?_) (gatL (gatS (gatS (gatS (gatS gatZ))))) (by kernel_rfl) (by kernel_rfl) (by kernel_rfl) (fun _ _ _ h => h) (Or.inl ⟨by rfl, ?_⟩) (by assumption) ?_
    rotate_left
    · intro w hSw
      try dsimp only at hSw
      go_simp
      all_goals with_reducible rfl
    try simp only [Act.put, List.setIfInBounds_toArray, List.set_cons_zero, List.set_cons_succ]
    refine wpAnyH_ready (rs := [3]) (by kernel_rfl) (by simp) ?_
    refine AllReadyH.cons (gatL (gatS (gatS (gatS gatZ)))) (fun K hK => ?_) AllReadyH.nil
    go_simp
    go_at_call 11
    (with_reducible refine (HC1.out _ hHeld.1).mono ?_)
    rintro e V1 ⟨rfl, hV1⟩
    have HV1 := Lib.hid hV1
    clear hV1
    dsimp only
    refine hK.out _ _ ?_ (fun hHeld => ?_)
    · exact HSt.out _ HV1.out
    clear hK K
    try simp only [Act.put, List.setIfInBounds_toArray, List.set_cons_zero, List.set_cons_succ]
    refine wpAnyH_ready (rs := [5]) (by kernel_rfl) (by simp) ?_
    refine AllReadyH.cons (gatL (gatS (gatS (gatS (gatS (gatS gatZ)))))) (fun K hK => ?_) AllReadyH.nil
    go_simp
    go_at_call 12
    (with_reducible refine (HC2.out _ hHeld.1).mono ?_)
    rintro e V2 ⟨rfl, hV2⟩
    have HV2 := Lib.hid hV2
    clear hV2
    dsimp only
    refine hK.out _ _ ?_ (fun hHeld => ?_)
    · exact HSt.out _ HV2.out
    clear hK K
    try simp only [Act.put, List.setIfInBounds_toArray, List.set_cons_zero, List.set_cons_succ]
    refine wpAnyH_take (i := 6) (v := ?_) (gatL (gatS (gatS (gatS (gatS (gatS (gatS gatZ))))))) (by kernel_rfl) (by kernel_rfl) (by kernel_rfl) (fun _ _ _ h => h) (Or.inl ⟨by rfl, ?_⟩) (by assumption) ?_
    rotate_left
    · intro w hSw
      try dsimp only at hSw
      go_simp
      all_goals with_reducible rfl
    try simp only [Act.put, List.setIfInBounds_toArray, List.set_cons_zero, List.set_cons_succ]
    refine wpAnyH_take (i := 7) (v := ?_) (gatL (gatS (gatS (gatS (gatS (gatS (gatS (gatS gatZ)))))))) (by kernel_rfl) (by kernel_rfl) (by kernel_rfl) (fun _ _ _ h => h) (Or.inl ⟨by rfl, ?_⟩) (by assumption) ?_
    rotate_left
    · intro w hSw
      try dsimp only at hSw
      go_simp
      all_goals with_reducible rfl
    try simp only [Act.put, List.setIfInBounds_toArray, List.set_cons_zero, List.set_cons_succ]
    refine wpAnyH_take (i := 8) (v := ?_) (gatL (gatS (gatS (gatS (gatS (gatS (gatS (gatS (gatS gatZ))))))))) (by kernel_rfl) (by kernel_rfl) (by kernel_rfl) (fun _ _ _ h => h) (Or.inl ⟨by rfl, ?_⟩) (by assumption) ?_
    rotate_left
    · intro w hSw
      try dsimp only at hSw
      go_simp
      all_goals with_reducible rfl
    try simp only [Act.put, List.setIfInBounds_toArray, List.set_cons_zero, List.set_cons_succ]
    refine wpAnyH_done (by kernel_rfl) ?_ _
    go_wp2_with (fail)
    exact bodyPost_ret (v := .bool true) (by simp [results, Try.results3, go_sem]; try rfl) rfl ⟨rfl, Hbwd.out.trans (HV2.out.mono Hbwd.out.size)⟩
end Go.Proofs.Ytngbfjimmdkfeaa

