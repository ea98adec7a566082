/- Texts joined: De Df. -/
import Derived.Test.YtngbfjimmdkfeaaPXD1
set_option linter.unusedVariables false
set_option linter.unusedSimpArgs false
namespace Go.Proofs.Ytngbfjimmdkfeaa
open Go.RowKit Go.Shelf

attribute [local go_sem] Oper.semAt_some

set_option maxRecDepth 100000 in
set_option maxHeartbeats 4000000 in
theorem dnext_any (x : Df) (p : DfL) (s : Int) (c : Nat) (w : World) (hx : DfAt w x p) (hc : c < 256) :
    Calls Try.prog 18 #[.agg #[.slice p.ma x.ms.length p.mc, .slice p.aa x.ac.length p.ac], .int .i64 s, .int .u8 (c : Int)] w fun e w' => e = .returned (.int .i64 (nextP x s c)) ∧ Below w.heap.size w w' := by
  have h1 := hx.ms.le
  have h2 := hx.ms.max
  have hlen := hx.len
  rw [hlen] at h1
  have HX := Lib.hid hx
  have HLN := Lib.hid hlen
  clear hx hlen
  obtain ⟨E, hE⟩ : ∃ E, Hid (nextP x s c = E) := ⟨_, Lib.hid rfl⟩
  rw [hE.out]
  obtain ⟨M, HM⟩ : ∃ M, Hid (x.ms.length = M) := ⟨_, Lib.hid rfl⟩
  rw [HM.out] at h1 ⊢
  have hA0 := Blk.new w 25 #[.slice p.ma M p.mc, .slice p.aa x.ac.length p.ac]
  have hb0 := up_one w (.cells #[.slice p.ma M p.mc, .slice p.aa x.ac.length p.ac] 25)
  have x0 := hA0.cell 0
  have xl := hA0.lt
  simp only [List.getElem?_cons_zero, List.getElem?_cons_succ] at x0
  by_cases g1 : s < 0
  · have HF : Hid (E = -1) := Lib.hid (by rw [← hE.out]; unfold nextP; rw [if_neg (by omega)])
    go_enter Try.func18, Try.ntmps18
    go_wp2_with (fail)
    exact bodyPost_ret (v := .int .i64 (-1)) (by simp [results, Try.results18, go_sem]; try first | rfl | assumption | omega) rfl ⟨by rw [HF.out], hb0⟩
  by_cases g2 : (M : Int) ≤ s
  · have HF : Hid (E = -1) := Lib.hid (by rw [← hE.out]; unfold nextP; rw [HM.out, if_neg (by omega)])
    go_enter Try.func18, Try.ntmps18
    go_wp2_with (fail)
    exact bodyPost_ret (v := .int .i64 (-1)) (by simp [results, Try.results18, go_sem]; try first | rfl | assumption | omega) rfl ⟨by rw [HF.out], hb0⟩
  obtain ⟨k, rfl⟩ : ∃ k : Nat, s = (k : Int) := ⟨s.toNat, by omega⟩
  have hkI : (k : Int) < (M : Int) := by omega
  have hkI0 : (0 : Int) ≤ (k : Int) := by omega
  have hk : k < M := by omega
  have hkm : k < x.ms.length := by rw [HM.out]; exact hk
  have hkr : k < p.rs.length := by rw [HLN.out]; exact hkm
  obtain ⟨b, off, hma⟩ := HX.out.ms.at_ k hkr
  have c0 := (HX.out.ms.grown hb0).cell b off hma k hkr
  have hmv := (HX.out.ms.mvs _ (List.getElem_mem hkr)).grown hb0
  have hgx : Hid (E = goM p.rs[k].l c) := Lib.hid (by
    have := HX.out.eq
    rw [← hE.out]
    unfold nextP
    rw [HM.out, if_pos (by omega)]
    simp only [← this, Int.toNat_natCast]
    rw [List.getD_eq_getElem?_getD, List.getElem?_map, List.getElem?_eq_getElem hkr]
    rfl)
  obtain ⟨d, hd⟩ : ∃ v, Hid (p.rs[k] = v) := ⟨_, Lib.hid rfl⟩
  rw [hd.out] at c0 hmv hgx
  have bl0 := World.block_lt_of_cell? _ _ c0
  have hdl : d.l.length ≤ d.c ∧ d.c ≤ 9223372036854775807 := ⟨hmv.le, hmv.max⟩
  have Hmv := Lib.hid hmv
  obtain ⟨DL, hDL⟩ : ∃ q, Hid (d.l.length = q) := ⟨_, Lib.hid rfl⟩
  rw [hDL.out] at c0 hdl
  have Hma := Lib.hid hma
  have g1I : ¬ (k : Int) < 0 := by omega
  have g2I : ¬ (M : Int) ≤ (k : Int) := by omega
  clear hma hmv hA0 g1 g2
  rw [Hma.out] at x0
  go_enter Try.func18, Try.ntmps18
  rw [Hma.out]
  rw [Hma.out] at c0
  rw [Hma.out] at hb0
  rw [Hma.out] at xl
  go_wp2_with (fail)
  generalize hW : World.alloc w _ = W at x0 xl hb0 c0 bl0 ⊢
  rw [Hma.out] at Hmv
  rw [hW] at Hmv
  clear hW
  go_loopw [24] (fun jv wr => ∃ j : Nat, j ≤ DL ∧ jv = .int .i64 (j : Int) ∧ Hid (E = goM (d.l.drop j) c) ∧ Below W.heap.size W wr) (fun jv _ => DL - (intOf jv).toNat)
  case atStart => exact ⟨0, Nat.zero_le _, rfl, hgx, Below.refl _ _⟩
  case round =>
    obtain ⟨j, hj, rfl, HJ, hbj⟩ := hrel
    have hbX := hb0.trans (hbj.mono hb0.size)
    by_cases hjt : j < DL
    · have hjI : (j : Int) < (DL : Int) := by omega
      have hjI0 : (0 : Int) ≤ (j : Int) := by omega
      have hjl : j < d.l.length := by rw [hDL.out]; exact hjt
      obtain ⟨b3, off3, hda⟩ := Hmv.out.at_ j hjl
      obtain ⟨⟨e0, e1, e2⟩, d1, d2⟩ := (Hmv.out.grown hbj).cell b3 off3 hda j hjl
      have HS : Hid (goM (d.l.drop j) c = if (d.l[j]).lo ≤ c ∧ c ≤ (d.l[j]).hi then (d.l[j]).to else goM (d.l.drop (j + 1)) c) := Lib.hid (by rw [List.drop_eq_getElem_cons hjl]; rfl)
      obtain ⟨m, hm⟩ : ∃ v, Hid (d.l[j] = v) := ⟨_, Lib.hid rfl⟩
      rw [hm.out] at e0 e1 e2 d1 d2 HS
      have ebl := World.block_lt_of_cell? _ _ e0
      have Hda := Lib.hid hda
      have hb1 := hbj.alloc hbj.size (.cells #[.int .u8 (m.lo : Int), .int .u8 (m.hi : Int), .int .i64 m.to] 57)
      have hbX1 := hbX.alloc hbX.size (.cells #[.int .u8 (m.lo : Int), .int .u8 (m.hi : Int), .int .i64 m.to] 57)
      have hB := Blk.new wr 57 #[.int .u8 (m.lo : Int), .int .u8 (m.hi : Int), .int .i64 m.to]
      have u0 := hB.cell 0
      have u1 := hB.cell 1
      have u2 := hB.cell 2
      have ul := hB.lt
      simp only [List.getElem?_cons_zero, List.getElem?_cons_succ] at u0 u1 u2
      clear hda hB
      rw [Hda.out]
      by_cases h1 : m.lo ≤ c
      · have h1I : (m.lo : Int) ≤ (c : Int) := by omega
        by_cases h2 : c ≤ m.hi
        · have h2I : (c : Int) ≤ (m.hi : Int) := by omega
          have HF : Hid (E = m.to) := Lib.hid (by rw [HJ.out, HS.out, if_pos ⟨h1, h2⟩])
          clear h1 h2
          go_wp2_with (fail)
          exact bodyPost_ret (v := .int .i64 m.to) (by simp [results, Try.results18, go_sem]; try first | rfl | assumption | omega) rfl ⟨by rw [HF.out], hbX1⟩
        · have h2I : ¬ (c : Int) ≤ (m.hi : Int) := by omega
          have HN : Hid (E = goM (d.l.drop (j + 1)) c) := Lib.hid (by rw [HJ.out, HS.out, if_neg (fun h => h2 h.2)])
          clear h1 h2
          go_wp2_with (fail)
          exact ⟨⟨j + 1, by omega, by simp, HN, hb1⟩, by simp [intOf]; omega⟩
      · have h1I : ¬ (m.lo : Int) ≤ (c : Int) := by omega
        have HN : Hid (E = goM (d.l.drop (j + 1)) c) := Lib.hid (by rw [HJ.out, HS.out, if_neg (fun h => h1 h.1)])
        clear h1
        go_wp2_with (fail)
        exact ⟨⟨j + 1, by omega, by simp, HN, hb1⟩, by simp [intOf]; omega⟩
    · obtain rfl : j = DL := by omega
      have hjI : ¬ (j : Int) < (j : Int) := by omega
      have HF : Hid (E = -1) := Lib.hid (by rw [HJ.out, List.drop_eq_nil_of_le (by rw [hDL.out]; exact Nat.le_refl _)]; rfl)
      go_wp2_with (fail)
      exact bodyPost_ret (v := .int .i64 (-1)) (by simp [results, Try.results18, go_sem]; try first | rfl | assumption | omega) rfl ⟨by rw [HF.out], hbX⟩

end Go.Proofs.Ytngbfjimmdkfeaa

namespace Go.Proofs.Ytngbfjimmdkfeaa
open Go.RowKit Go.Shelf

attribute [local go_sem] Oper.semAt_some

theorem dsz (s : ByteArray) : s.data.toList.length = s.size := rfl

set_option maxRecDepth 100000 in
set_option maxHeartbeats 4000000 in
theorem drun_any (x : Df) (p : DfL) (s : ByteArray) (w : World) (hx : DfAt w x p) (hs : s.size ≤ 1000000000) :
    Calls Try.prog 20 #[.agg #[.slice p.ma x.ms.length p.mc, .slice p.aa x.ac.length p.ac], .string s] w fun e w' => e = .returned (.int .i64 (drunP x s.data.toList)) ∧ Below w.heap.size w w' := by
  have h3 := hx.acc.le
  have h4 := hx.acc.max
  have HX := Lib.hid hx
  have Hn : Hid (∀ (V : World) (st : Int) (c : Nat), Below w.heap.size w V → c < 256 → Calls Try.prog 18 #[.agg #[.slice p.ma x.ms.length p.mc, .slice p.aa x.ac.length p.ac], .int .i64 st, .int .u8 (c : Int)] V fun e V' => e = .returned (.int .i64 (nextP x st c)) ∧ Below V.heap.size V V') := Lib.hid (fun V st c h hc => dnext_any x p st c V (HX.out.grown h) hc)
  clear hx
  obtain ⟨E, hE⟩ : ∃ E, Hid (drunP x s.data.toList = E) := ⟨_, Lib.hid rfl⟩
  rw [hE.out]
  obtain ⟨Z, hZ⟩ : ∃ Z, Hid (wayP x 0 s.data.toList = Z) := ⟨_, Lib.hid rfl⟩
  have HEZ : Hid (E = accP x Z) := Lib.hid (by rw [← hE.out, ← hZ.out]; rfl)
  obtain ⟨M, HM⟩ : ∃ M, Hid (x.ms.length = M) := ⟨_, Lib.hid rfl⟩
  obtain ⟨N, HN⟩ : ∃ N, Hid (x.ac.length = N) := ⟨_, Lib.hid rfl⟩
  rw [HM.out] at Hn ⊢
  rw [HN.out] at Hn h3 ⊢
  have hA0 := Blk.new w 25 #[.slice p.ma M p.mc, .slice p.aa N p.ac]
  have hb0 := up_one w (.cells #[.slice p.ma M p.mc, .slice p.aa N p.ac] 25)
  have x0 := hA0.cell 0
  have x1 := hA0.cell 1
  simp only [List.getElem?_cons_zero, List.getElem?_cons_succ] at x0 x1
  go_enter Try.func20, Try.ntmps20
  go_wp2_with (fail)
  generalize hW : World.alloc w _ = W at x0 x1 hb0 ⊢
  clear hW hA0
  go_loopw [5, 6] (fun sv iv wr => ∃ (k : Nat) (st : Int), k ≤ s.size ∧ iv = .int .i64 (k : Int) ∧ sv = .int .i64 st ∧ Hid (wayP x st (s.data.toList.drop k) = Z) ∧ Below W.heap.size W wr) (fun _ iv _ => s.size - (intOf iv).toNat)
  case atStart => exact ⟨0, 0, Nat.zero_le _, rfl, rfl, hZ, Below.refl _ _⟩
  case round =>
    obtain ⟨k, st, hk, rfl, rfl, HK, hbr⟩ := hrel
    have hbw := hb0.trans (hbr.mono hb0.size)
    have y0 := cell_up hbr x0
    have y1 := cell_up hbr x1
    have yl := World.block_lt_of_cell? _ _ y0
    by_cases hgo : k < s.size ∧ st ≠ -1
    case pos =>
      obtain ⟨hlt, hst⟩ : k < s.size ∧ st ≠ -1 := hgo
      have hkI : (k : Int) < (s.size : Int) := by omega
      have hkI0 : (0 : Int) ≤ (k : Int) := by omega
      have hkl : k < s.data.toList.length := by rw [dsz]; exact hlt
      have hsb : (st != -1) = true := by rw [bne_iff_ne]; exact hst
      have HS : Hid (wayP x (nextP x st (s[k]).toNat) (s.data.toList.drop (k + 1)) = Z) := Lib.hid (by rw [← HK.out, List.drop_eq_getElem_cons hkl]; rfl)
      obtain ⟨u, hu⟩ : ∃ u, Hid ((s[k]).toNat = u) := ⟨_, Lib.hid rfl⟩
      have hul : u < 256 := by rw [← hu.out]; exact (s[k]).toNat_lt
      have hsk := hu.out
      rw [hu.out] at HS
      have hbd : Below wr.heap.size wr wr.drew := (Below.refl wr.heap.size wr).drew
      have HSt : Hid (∀ V, Below wr.drew.heap.size wr.drew V → (Below wr.drew.heap.size wr.drew V ∧ V.cell? ⟨w.heap.size, 0, none⟩ = some (.slice p.ma M p.mc) ∧ V.cell? ⟨w.heap.size, 1, none⟩ = some (.slice p.aa N p.ac))) := Lib.hid (fun V hV => by
        have hu : Below wr.heap.size wr V := hbd.trans (hV.mono hbd.size)
        exact ⟨hV, cell_up hu y0, cell_up hu y1⟩)
      have Hbd := Lib.hid (hbr.trans (hbd.mono hbr.size))
      have Hc := Lib.hid (Hn.out wr.drew st u (hb0.trans (Hbd.out.mono hb0.size)) hul)
      clear hbd y0 y1
      go_wp2_with (fail)
      refine wp_region_held_drew (S := fun w' => (Below wr.drew.heap.size wr.drew w' ∧ w'.cell? ⟨w.heap.size, 0, none⟩ = some (.slice p.ma M p.mc) ∧ w'.cell? ⟨w.heap.size, 1, none⟩ = some (.slice p.aa N p.ac))) (by kernel_rfl) ?_ (fun hHeld => ?_)
      · exact HSt.out _ (Below.refl _ _)
      refine wpAnyH_take (i := 0) (v := ?_) (gatL gatZ) (by kernel_rfl) (by kernel_rfl) (by kernel_rfl) (fun _ _ _ h => h) (Or.inl ⟨by rfl, ?_⟩) (by assumption) ?_
      rotate_left
      · intro w hSw
        try dsimp only at hSw
        go_simp
        all_goals with_reducible rfl
      try simp only [Act.put, List.setIfInBounds_toArray, List.set_cons_zero, List.set_cons_succ]
      refine wpAnyH_take (i := 1) (v := ?_) (gatL (gatS gatZ)) (by kernel_rfl) (by kernel_rfl) (by kernel_rfl) (fun _ _ _ h => h) (Or.inl ⟨by rfl, ?_⟩) (by assumption) ?_
      rotate_left
      · intro w hSw
        try dsimp only at hSw
        go_simp
        all_goals with_reducible rfl
      try simp only [Act.put, List.setIfInBounds_toArray, List.set_cons_zero, List.set_cons_succ]
      refine wpAnyH_take (i := 2) (v := ?_) (gatL (gatS (gatS gatZ))) (by kernel_rfl) (by kernel_rfl) (by kernel_rfl) (fun _ _ _ h => h) (Or.inl ⟨by rfl, ?_⟩) (by assumption) ?_
      rotate_left
      · intro w hSw
        try dsimp only at hSw
        go_simp
        all_goals with_reducible rfl
      try simp only [Act.put, List.setIfInBounds_toArray, List.set_cons_zero, List.set_cons_succ]
      refine wpAnyH_take (i := 3) (v := ?_) (gatL (gatS (gatS (gatS gatZ)))) (by kernel_rfl) (by kernel_rfl) (by kernel_rfl) (fun _ _ _ h => h) (Or.inl ⟨by rfl, ?_⟩) (by assumption) ?_
      rotate_left
      · intro w hSw
        try dsimp only at hSw
        go_simp
        all_goals with_reducible rfl
      try simp only [Act.put, List.setIfInBounds_toArray, List.set_cons_zero, List.set_cons_succ]
      refine wpAnyH_take (i := 4) (v := ?_) (gatL (gatS (gatS (gatS (gatS gatZ))))) (by kernel_rfl) (by kernel_rfl) (by kernel_rfl) (fun _ _ _ h => h) (Or.inl ⟨by rfl, ?_⟩) (by assumption) ?_
      rotate_left
      · intro w hSw
        try dsimp only at hSw
        go_simp
        all_goals with_reducible rfl
      try simp only [Act.put, List.setIfInBounds_toArray, List.set_cons_zero, List.set_cons_succ]
      refine wpAnyH_ready (rs := [5]) (by kernel_rfl) (by simp) ?_
      refine AllReadyH.cons (gatL (gatS (gatS (gatS (gatS (gatS gatZ)))))) (fun K hK => ?_) AllReadyH.nil
      go_simp
      go_at_call 18
      (with_reducible refine Hc.out.mono ?_)
      rintro e V4 ⟨rfl, hV4⟩
      have HV4 := Lib.hid hV4
      clear hV4
      dsimp only
      refine hK.out _ _ ?_ (fun hHeld => ?_)
      · exact HSt.out _ HV4.out
      clear hK K
      try simp only [Act.put, List.setIfInBounds_toArray, List.set_cons_zero, List.set_cons_succ]
      refine wpAnyH_take (i := 6) (v := ?_) (gatL (gatS (gatS (gatS (gatS (gatS (gatS gatZ))))))) (by kernel_rfl) (by kernel_rfl) (by kernel_rfl) (fun _ _ _ h => h) (Or.inl ⟨by rfl, ?_⟩) (by assumption) ?_
      rotate_left
      · intro w hSw
        try dsimp only at hSw
        go_simp
        all_goals with_reducible rfl
      try simp only [Act.put, List.setIfInBounds_toArray, List.set_cons_zero, List.set_cons_succ]
      refine wpAnyH_done (by kernel_rfl) ?_ _
      go_wp2_with (fail)
      exact ⟨⟨k + 1, _, by omega, by simp, by first | rfl | trivial, HS, Hbd.out.trans (HV4.out.mono Hbd.out.size)⟩, by simp [intOf]; omega⟩
    case neg =>
      have hzs : st = Z := by
        rcases Nat.lt_or_ge k s.size with h | h
        · have e : st = -1 := Decidable.byContradiction fun h2 => hgo ⟨h, h2⟩
          rw [← HK.out, e, way_none]
        · rw [← HK.out, List.drop_eq_nil_of_le (by rw [dsz]; exact h)]; rfl
      have HEs : Hid (E = accP x st) := Lib.hid (by rw [HEZ.out, hzs])
      clear hzs
      by_cases hsm : st = -1
      case pos =>
        subst hsm
        have HF : Hid (E = -1) := Lib.hid (by rw [HEs.out]; unfold accP; rw [if_neg (by omega)])
        by_cases hlt : k < s.size
        · have hkI : (k : Int) < (s.size : Int) := by omega
          clear hgo
          go_wp2_with (fail)
          exact bodyPost_ret (v := .int .i64 (-1)) (by simp [results, Try.results20, go_sem]; try first | rfl | assumption | omega) rfl ⟨by rw [HF.out], hbw⟩
        · have hkI : ¬ (k : Int) < (s.size : Int) := by omega
          clear hgo
          go_wp2_with (fail)
          exact bodyPost_ret (v := .int .i64 (-1)) (by simp [results, Try.results20, go_sem]; try first | rfl | assumption | omega) rfl ⟨by rw [HF.out], hbw⟩
      have hge : s.size ≤ k := by
        rcases Nat.lt_or_ge k s.size with h | h
        · exact absurd ⟨h, hsm⟩ hgo
        · exact h
      have hkI : ¬ (k : Int) < (s.size : Int) := by omega
      clear hgo hsm
      all_goals
        by_cases g1 : st < 0
        · have HF : Hid (E = -1) := Lib.hid (by rw [HEs.out]; unfold accP; rw [if_neg (by omega)])
          go_wp2_with (fail)
          exact bodyPost_ret (v := .int .i64 (-1)) (by simp [results, Try.results20, go_sem]; try first | rfl | assumption | omega) rfl ⟨by rw [HF.out], hbw⟩
        by_cases g2 : (N : Int) ≤ st
        · have HF : Hid (E = -1) := Lib.hid (by rw [HEs.out]; unfold accP; rw [HN.out, if_neg (by omega)])
          go_wp2_with (fail)
          exact bodyPost_ret (v := .int .i64 (-1)) (by simp [results, Try.results20, go_sem]; try first | rfl | assumption | omega) rfl ⟨by rw [HF.out], hbw⟩
        obtain ⟨n, rfl⟩ : ∃ n : Nat, st = (n : Int) := ⟨st.toNat, by omega⟩
        have hnN : (n : Int) < (N : Int) := by omega
        have hnI0 : (0 : Int) ≤ (n : Int) := by omega
        have hna : n < x.ac.length := by rw [HN.out]; omega
        obtain ⟨b2, off2, haa⟩ := HX.out.acc.at_ n hna
        have c1 := (HX.out.acc.grown hbw).cell b2 off2 haa n hna
        have HF : Hid (E = x.ac[n]) := Lib.hid (by
          rw [HEs.out]; unfold accP
          rw [HN.out, if_pos (by omega), Int.toNat_natCast, List.getD_eq_getElem?_getD, List.getElem?_eq_getElem hna]; rfl)
        obtain ⟨t, ht⟩ : ∃ v, Hid (x.ac[n] = v) := ⟨_, Lib.hid rfl⟩
        rw [ht.out] at c1 HF
        have bl1 := World.block_lt_of_cell? _ _ c1
        have Haa := Lib.hid haa
        clear haa g1 g2
        rw [Haa.out] at y1
        go_wp2_with (fail)
        exact bodyPost_ret (v := .int .i64 t) (by simp [results, Try.results20, go_sem]; try first | rfl | assumption | omega) rfl ⟨by rw [HF.out], hbw⟩

end Go.Proofs.Ytngbfjimmdkfeaa

