/- The row DfaSteps: for every automaton with one way, any text, any byte: what the text with the byte behind it comes to is what the state does to which the text led, one step on: the law answers true and changes nothing that was there; no premise beyond the row's own. -/
/- Texts joined: Ep PDs. -/
import Derived.Test.YtngbfjimmdkfeaaJDB
import Derived.Test.YtngbfjimmdkfeaaJEh
import Derived.Test.YtngbfjimmdkfeaaJD2
import Derived.Test.YtngbfjimmdkfeaaJD3
import Derived.Test.YtngbfjimmdkfeaaJEk
set_option linter.unusedVariables false
set_option linter.unusedSimpArgs false
namespace Go.Proofs.Ytngbfjimmdkfeaa
open Go.RowKit Go.Shelf

attribute [local go_sem] Oper.semAt_some

set_option maxRecDepth 100000 in
set_option maxHeartbeats 4000000 in
theorem dfaSteps_any (x : Df) (p : DfL) (s : ByteArray) (c : Nat) (hc : c < 256) (w : World) (hx : DfAt w x p) :
    Calls Try.prog 8 #[.agg #[.slice p.ma x.ms.length p.mc, .slice p.aa x.ac.length p.ac], .string s, .int .u8 (c : Int)] w fun e w' => e = .returned (.bool true) ∧ Below w.heap.size w w' := by
  have h1 := hx.ms.le
  have h2 := hx.ms.max
  have h3 := hx.acc.le
  have h4 := hx.acc.max
  have hlen := hx.len
  rw [hlen] at h1
  have HX := Lib.hid hx
  have HF := Lib.hid (fun (V : World) (h : DfAt V x p) => few4_any x p V h)
  have HK2 := Lib.hid (fun (V : World) (h : DfAt V x p) => refDCheck_any x p V h)
  have Hn : Hid (∀ (V : World) (st : Int) (c : Nat), Below w.heap.size w V → c < 256 → Calls Try.prog 18 #[.agg #[.slice p.ma x.ms.length p.mc, .slice p.aa x.ac.length p.ac], .int .i64 st, .int .u8 (c : Int)] V fun e V' => e = .returned (.int .i64 (nextP x st c)) ∧ Below V.heap.size V V') := Lib.hid (fun V st c h hc => dnext_any x p st c V (hx.grown h) hc)
  have HK5 := Lib.hid (fun (V : World) (h : DfAt V x p) (s : ByteArray) (hs : s.size ≤ 1000) => drun_any x p s V h (by omega))
  obtain ⟨rs, ma, mc, aa, ac⟩ := p
  dsimp only at *
  obtain ⟨M, HM⟩ : ∃ M, Hid (x.ms.length = M) := ⟨_, Lib.hid rfl⟩
  obtain ⟨N, HN⟩ : ∃ N, Hid (x.ac.length = N) := ⟨_, Lib.hid rfl⟩
  obtain ⟨Cv, hCv⟩ : ∃ n, Hid (dfB x = n) := ⟨_, Lib.hid rfl⟩
  rw [HM.out, HN.out, hCv.out] at HK2
  rw [HM.out, HN.out] at Hn HK5
  obtain ⟨Z, hZ⟩ : ∃ Z, Hid (wayP x 0 s.data.toList = Z) := ⟨_, Lib.hid rfl⟩
  rw [HM.out] at h1
  rw [HN.out] at h3
  rw [HM.out, HN.out]
  obtain ⟨F, hF⟩ : ∃ F, Hid (fewD x = F) := ⟨_, Lib.hid rfl⟩
  rw [HM.out, HN.out, hF.out] at HF
  have hA0 := Blk.new w 25 #[.slice ma M mc, .slice aa N ac]
  have hb0 : Below w.heap.size w (w.alloc (.cells #[.slice ma M mc, .slice aa N ac] 25)) := (Below.refl _ w).alloc (Nat.le_refl _) _
  go_enter Try.func8, Try.ntmps8
  go_wp2_with (fail)
  refine (live4_any _).mono ?_
  rintro e w1 ⟨rfl, hb1⟩
  have hA1 := hA0.below hb1 hA0.lt
  have hbw1 := hb0.trans (hb1.mono hb0.size)
  clear hA0 hb0 hb1 hx hlen
  obtain ⟨BN, hBN⟩ : ∃ n, Hid (w.heap.size = n) := ⟨_, Lib.hid rfl⟩
  have Hbw1 := Lib.hid hbw1
  rw [hBN.out] at hA1
  simp only [hBN.out]
  clear hbw1
  have x0 := hA1.cell 0
  have x1 := hA1.cell 1
  have xl := hA1.lt
  simp only [List.getElem?_cons_zero, List.getElem?_cons_succ] at x0 x1
  go_wp2_with (fail)
  refine (HF.out _ (HX.out.grown Hbw1.out)).mono ?_
  rintro e w2 ⟨rfl, hb2⟩
  have hA2 := hA1.below hb2 hA1.lt
  have Hbw2 := Lib.hid (Hbw1.out.trans (hb2.mono Hbw1.out.size))
  clear hA1 hb2 x0 x1 xl HF
  have x0 := hA2.cell 0
  have x1 := hA2.cell 1
  have xl := hA2.lt
  simp only [List.getElem?_cons_zero, List.getElem?_cons_succ] at x0 x1
  cases F
  case false =>
    go_wp2_with (fail)
    exact bodyPost_ret (v := .bool true) (by simp [results, Try.results8, go_sem]; try rfl) rfl ⟨rfl, Hbw2.out⟩
  case true =>
    go_wp2_with (fail)
    refine (HK2.out _ (HX.out.grown Hbw2.out)).mono ?_
    rintro e w3 ⟨rfl, hb3⟩
    have hA3 := hA2.below hb3 hA2.lt
    have Hbw3 := Lib.hid (Hbw2.out.trans (hb3.mono Hbw2.out.size))
    clear hA2 hb3 x0 x1 xl HK2
    have x0 := hA3.cell 0
    have x1 := hA3.cell 1
    have xl := hA3.lt
    simp only [List.getElem?_cons_zero, List.getElem?_cons_succ] at x0 x1
    cases Cv
    case false =>
      simp only [Bool.false_eq_true, if_false]
      go_wp2_with (fail)
      exact bodyPost_ret (v := .bool true) (by simp [results, Try.results8, go_sem]; try rfl) rfl ⟨rfl, Hbw3.out⟩
    case true =>
    simp only [if_true]
    by_cases hlen : 300 < s.size
    · have hlenI : (300 : Int) < (s.size : Int) := by omega
      go_wp2_with (fail)
      exact bodyPost_ret (v := .bool true) (by simp [results, Try.results8, go_sem]; try rfl) rfl ⟨rfl, Hbw3.out⟩
    have hlenI : ¬ (300 : Int) < (s.size : Int) := by omega
    have HT : Hid (s.size ≤ 300) := Lib.hid (by omega)
    go_wp2_with (fail)
    go_loopw [8, 9] (fun sv iv wr => ∃ (k : Nat) (st : Int), k ≤ s.size ∧ iv = .int .i64 (k : Int) ∧ sv = .int .i64 st ∧ Hid (wayP x st (s.data.toList.drop k) = Z) ∧ Below w3.heap.size w3 wr) (fun _ iv _ => s.size - (intOf iv).toNat)
    case atStart => exact ⟨0, 0, Nat.zero_le _, rfl, rfl, hZ, Below.refl _ _⟩
    case round =>
    obtain ⟨k, st, hk, rfl, rfl, HK, hbr⟩ := hrel
    have hbw := Hbw3.out.trans (hbr.mono Hbw3.out.size)
    have y0 := cell_up hbr x0
    have y1 := cell_up hbr x1
    have yl := World.block_lt_of_cell? _ _ y0
    by_cases hlt : k < s.size
    case pos =>
      have hkI : (k : Int) < (s.size : Int) := by omega
      have hkI0 : (0 : Int) ≤ (k : Int) := by omega
      have hkl : k < s.data.toList.length := by rw [dsz]; exact hlt
      have HS : Hid (wayP x (nextP x st (s[k]).toNat) (s.data.toList.drop (k + 1)) = Z) := Lib.hid (by rw [← HK.out, List.drop_eq_getElem_cons hkl]; rfl)
      obtain ⟨u, hu⟩ : ∃ u, Hid ((s[k]).toNat = u) := ⟨_, Lib.hid rfl⟩
      have hul : u < 256 := by rw [← hu.out]; exact (s[k]).toNat_lt
      have hsk := hu.out
      rw [hu.out] at HS
      have hbd : Below wr.heap.size wr wr.drew := (Below.refl wr.heap.size wr).drew
      have HSt : Hid (∀ V, Below wr.drew.heap.size wr.drew V → (Below wr.drew.heap.size wr.drew V ∧ V.cell? ⟨BN, 0, none⟩ = some (.slice ma M mc) ∧ V.cell? ⟨BN, 1, none⟩ = some (.slice aa N ac))) := Lib.hid (fun V hV => by
        have hu : Below wr.heap.size wr V := hbd.trans (hV.mono hbd.size)
        exact ⟨hV, cell_up hu y0, cell_up hu y1⟩)
      have Hbd := Lib.hid (hbr.trans (hbd.mono hbr.size))
      have Hc := Lib.hid (Hn.out wr.drew st u (Hbw3.out.trans (Hbd.out.mono Hbw3.out.size)) hul)
      clear hbd y0 y1
      go_wp2_with (fail)
      refine wp_region_held_drew (S := fun w' => (Below wr.drew.heap.size wr.drew w' ∧ w'.cell? ⟨BN, 0, none⟩ = some (.slice ma M mc) ∧ w'.cell? ⟨BN, 1, none⟩ = some (.slice aa N ac))) (by kernel_rfl) ?_ (fun hHeld => ?_)
      · exact HSt.out _ (Below.refl _ _)
      refine wpAnyH_take (i := 0) (v := ?_) (gatL gatZ) (by kernel_rfl) (by kernel_rfl) (by kernel_rfl) (fun _ _ _ h => h) (Or.inl ⟨by rfl, ?_⟩) (by assumption) ?_
      rotate_left
      · intro w hSw
        try dsimp only at hSw
        go_simp
        all_goals with_reducible rfl
      try simp only [Act.put, List.setIfInBounds_toArray, List.set_cons_zero, List.set_cons_succ]
      refine wpAnyH_take (i := 1) (v := ?_) (gatL (gatS gatZ)) (by kernel_rfl) (by kernel_rfl) (by kernel_rfl) (fun _ _ _ h => h) (Or.inl ⟨by rfl, ?_⟩) (by assumption) ?_
      rotate_left
      · intro w hSw
        try dsimp only at hSw
        go_simp
        all_goals with_reducible rfl
      try simp only [Act.put, List.setIfInBounds_toArray, List.set_cons_zero, List.set_cons_succ]
      refine wpAnyH_take (i := 2) (v := ?_) (gatL (gatS (gatS gatZ))) (by kernel_rfl) (by kernel_rfl) (by kernel_rfl) (fun _ _ _ h => h) (Or.inl ⟨by rfl, ?_⟩) (by assumption) ?_
      rotate_left
      · intro w hSw
        try dsimp only at hSw
        go_simp
        all_goals with_reducible rfl
      try simp only [Act.put, List.setIfInBounds_toArray, List.set_cons_zero, List.set_cons_succ]
      refine wpAnyH_take (i := 3) (v := ?_) (gatL (gatS (gatS (gatS gatZ)))) (by kernel_rfl) (by kernel_rfl) (by kernel_rfl) (fun _ _ _ h => h) (Or.inl ⟨by rfl, ?_⟩) (by assumption) ?_
      rotate_left
      · intro w hSw
        try dsimp only at hSw
        go_simp
        all_goals with_reducible rfl
      try simp only [Act.put, List.setIfInBounds_toArray, List.set_cons_zero, List.set_cons_succ]
      refine wpAnyH_take (i := 4) (v := ?_) (gatL (gatS (gatS (gatS (gatS gatZ))))) (by kernel_rfl) (by kernel_rfl) (by kernel_rfl) (fun _ _ _ h => h) (Or.inl ⟨by rfl, ?_⟩) (by assumption) ?_
      rotate_left
      · intro w hSw
        try dsimp only at hSw
        go_simp
        all_goals with_reducible rfl
      try simp only [Act.put, List.setIfInBounds_toArray, List.set_cons_zero, List.set_cons_succ]
      refine wpAnyH_ready (rs := [5]) (by kernel_rfl) (by simp) ?_
      refine AllReadyH.cons (gatL (gatS (gatS (gatS (gatS (gatS gatZ)))))) (fun K hK => ?_) AllReadyH.nil
      go_simp
      go_at_call 18
      (with_reducible refine Hc.out.mono ?_)
      rintro e V4 ⟨rfl, hV4⟩
      have HV4 := Lib.hid hV4
      clear hV4
      dsimp only
      refine hK.out _ _ ?_ (fun hHeld => ?_)
      · exact HSt.out _ HV4.out
      clear hK K
      try simp only [Act.put, List.setIfInBounds_toArray, List.set_cons_zero, List.set_cons_succ]
      refine wpAnyH_take (i := 6) (v := ?_) (gatL (gatS (gatS (gatS (gatS (gatS (gatS gatZ))))))) (by kernel_rfl) (by kernel_rfl) (by kernel_rfl) (fun _ _ _ h => h) (Or.inl ⟨by rfl, ?_⟩) (by assumption) ?_
      rotate_left
      · intro w hSw
        try dsimp only at hSw
        go_simp
        all_goals with_reducible rfl
      try simp only [Act.put, List.setIfInBounds_toArray, List.set_cons_zero, List.set_cons_succ]
      refine wpAnyH_done (by kernel_rfl) ?_ _
      go_wp2_with (fail)
      exact ⟨⟨k + 1, _, by omega, by simp, by first | rfl | trivial, HS, Hbd.out.trans (HV4.out.mono Hbd.out.size)⟩, by simp [intOf]; omega⟩
    case neg =>
      obtain rfl : st = Z := by
        rw [← HK.out, List.drop_eq_nil_of_le (by rw [dsz]; omega)]; rfl
      have hkI : ¬ (k : Int) < (s.size : Int) := by omega
      clear hlt HK x0 x1 xl
      have Hnx := Lib.hid (Hn.out wr st c hbw hc)
      obtain ⟨tq, hto⟩ : ∃ t, Hid (nextP x st c = t) := ⟨_, Lib.hid rfl⟩
      rw [hto.out] at Hnx
      have hA4 := hA3.below hbr hA3.lt
      have Hbw4 := Lib.hid hbw
      clear hbr hbw
      go_wp2_with (fail)
      refine Hnx.out.mono ?_
      rintro e w5 ⟨rfl, hb5⟩
      have hA5 := hA4.below hb5 hA4.lt
      have Hbw5 := Lib.hid (Hbw4.out.trans (hb5.mono Hbw4.out.size))
      clear hA4 hb5 y0 y1 yl
      have x0 := hA5.cell 0
      have x1 := hA5.cell 1
      have xl := hA5.lt
      simp only [List.getElem?_cons_zero, List.getElem?_cons_succ] at x0 x1
      have HTo : Hid (st < 0 → tq = -1) := Lib.hid (fun h => by rw [← hto.out]; unfold nextP; rw [if_neg (by omega)])
      have HR : Hid (∀ (s' : ByteArray), s'.data.toList = s.data.toList ++ [UInt8.ofNat c] → drunP x s'.data.toList = accP x tq) := Lib.hid (fun s' h => by
        have e : (UInt8.ofNat c).toNat = c := by rw [UInt8.toNat_ofNat']; omega
        rw [h]
        unfold drunP
        rw [way_snoc, hZ.out, e, hto.out])
      obtain ⟨B1, hB1⟩ : ∃ B : ByteArray, Hid ((⟨#[UInt8.ofNat c]⟩ : ByteArray) = B) := ⟨_, Lib.hid rfl⟩
      have hB1s : B1.size = 1 := by rw [← hB1.out]; rfl
      have ec : (UInt8.ofNat c).toNat = c := by rw [UInt8.toNat_ofNat']; omega
      have hby : Bytes (w5.alloc (.cells #[.int .u8 (c : Int)] 5)) (some ⟨w5.heap.size, 0, none⟩) 1 [UInt8.ofNat c] := by
        refine ⟨Nat.le_refl _, by omega, fun i _ => ⟨_, _, rfl⟩, fun b off e i hi => ?_, fun e => (by cases e)⟩
        cases e
        obtain rfl : i = 0 := by simp at hi; omega
        have h := (Blk.new w5 5 #[.int .u8 (c : Int)]).cell 0
        show _ = some (Value.int .u8 ((UInt8.ofNat c).toNat : Int))
        rw [ec]
        exact h
      have hk := run_conv (n := 1) _ hby rfl
      rw [show (⟨[UInt8.ofNat c].toArray⟩ : ByteArray) = B1 from hB1.out] at hk
      have Hup := Lib.hid (up_by (w := w5) (.cells #[.int .u8 (c : Int)] 5))
      have Hsz : Hid ((s ++ B1).size ≤ 1000) := Lib.hid (by rw [ByteArray.size_append, hB1s]; omega)
      have HBs : Hid ((s ++ B1).data.toList = s.data.toList ++ [UInt8.ofNat c]) := Lib.hid (by rw [ByteArray.data_append, Array.toList_append, ← hB1.out])
      have hsz1 : s.size ≤ 300 := HT.out
      clear hby hto
      by_cases g0 : st < 0
      · have htm := HTo.out g0
        subst htm
        have HF : Hid (accP x (-1) = -1) := Lib.hid (by unfold accP; rw [if_neg (by omega)])
        go_wp2_with (fail)
        refine (HK5.out _ (HX.out.grown (Hbw5.out.trans (Hup.out.mono Hbw5.out.size))) (s ++ B1) Hsz.out).mono ?_
        rintro e w6 ⟨rfl, hb6⟩
        rw [HR.out (s ++ B1) HBs.out, HF.out]
        have Hb6 := Lib.hid ((Hbw5.out.trans (Hup.out.mono Hbw5.out.size)).trans (hb6.mono (Nat.le_trans Hbw5.out.size Hup.out.size)))
        clear hb6 hk
        go_wp2_with (fail)
        exact bodyPost_ret (v := .bool true) (by simp [results, Try.results8, go_sem]; try rfl) rfl ⟨rfl, Hb6.out⟩
      by_cases g1 : tq < 0
      · have HF : Hid (accP x tq = -1) := Lib.hid (by unfold accP; rw [if_neg (by omega)])
        go_wp2_with (fail)
        refine (HK5.out _ (HX.out.grown (Hbw5.out.trans (Hup.out.mono Hbw5.out.size))) (s ++ B1) Hsz.out).mono ?_
        rintro e w6 ⟨rfl, hb6⟩
        rw [HR.out (s ++ B1) HBs.out, HF.out]
        have Hb6 := Lib.hid ((Hbw5.out.trans (Hup.out.mono Hbw5.out.size)).trans (hb6.mono (Nat.le_trans Hbw5.out.size Hup.out.size)))
        clear hb6 hk
        go_wp2_with (fail)
        exact bodyPost_ret (v := .bool true) (by simp [results, Try.results8, go_sem]; try rfl) rfl ⟨rfl, Hb6.out⟩
      by_cases g2 : (N : Int) ≤ tq
      · have HF : Hid (accP x tq = -1) := Lib.hid (by unfold accP; rw [HN.out, if_neg (by omega)])
        go_wp2_with (fail)
        refine (HK5.out _ (HX.out.grown (Hbw5.out.trans (Hup.out.mono Hbw5.out.size))) (s ++ B1) Hsz.out).mono ?_
        rintro e w6 ⟨rfl, hb6⟩
        rw [HR.out (s ++ B1) HBs.out, HF.out]
        have Hb6 := Lib.hid ((Hbw5.out.trans (Hup.out.mono Hbw5.out.size)).trans (hb6.mono (Nat.le_trans Hbw5.out.size Hup.out.size)))
        clear hb6 hk
        go_wp2_with (fail)
        exact bodyPost_ret (v := .bool true) (by simp [results, Try.results8, go_sem]; try rfl) rfl ⟨rfl, Hb6.out⟩
      obtain ⟨n, rfl⟩ : ∃ n : Nat, tq = (n : Int) := ⟨tq.toNat, by omega⟩
      have hnN : (n : Int) < (N : Int) := by omega
      have hnI0 : (0 : Int) ≤ (n : Int) := by omega
      have hna : n < x.ac.length := by rw [HN.out]; omega
      obtain ⟨b2, off2, haa⟩ := HX.out.acc.at_ n hna
      have c1 := (HX.out.acc.grown Hbw5.out).cell b2 off2 haa n hna
      have HF : Hid (accP x (n : Int) = x.ac[n]) := Lib.hid (by
        unfold accP
        rw [HN.out, if_pos (by omega), Int.toNat_natCast, List.getD_eq_getElem?_getD, List.getElem?_eq_getElem hna]; rfl)
      obtain ⟨t, ht⟩ : ∃ v, Hid (x.ac[n] = v) := ⟨_, Lib.hid rfl⟩
      rw [ht.out] at c1 HF
      have bl1 := World.block_lt_of_cell? _ _ c1
      dsimp only at haa
      subst haa
      clear g1 g2
      go_wp2_with (fail)
      refine (HK5.out _ (HX.out.grown (Hbw5.out.trans (Hup.out.mono Hbw5.out.size))) (s ++ B1) Hsz.out).mono ?_
      rintro e w6 ⟨rfl, hb6⟩
      rw [HR.out (s ++ B1) HBs.out, HF.out]
      have Hb6 := Lib.hid ((Hbw5.out.trans (Hup.out.mono Hbw5.out.size)).trans (hb6.mono (Nat.le_trans Hbw5.out.size Hup.out.size)))
      clear hb6 hk
      go_wp2_with (fail)
      exact bodyPost_ret (v := .bool true) (by simp [results, Try.results8, go_sem]; try rfl) rfl ⟨rfl, Hb6.out⟩
end Go.Proofs.Ytngbfjimmdkfeaa

namespace Go.Proofs.Ytngbfjimmdkfeaa
open Go.ChangeShapes Go.WideShapes Go.ChangeAt Go.RowKit

set_option maxRecDepth 100000 in
theorem dfaSteps_lifted (os : Os) (started : os.Started) (H : Type) (enc : TypeId × Value → H) :
    ReturnsInHanded {} Try.checked os 8 .any (Rows.dfaStepsSpec.pre6 enc Try.prog Try.f8 Rows.dfaStepsRow.domain false) (Rows.dfaStepsSpec.post enc Try.prog Try.f8 false true false false) := by
  refine returnsInHanded_of_change (C := Try.checked) Try.own started (by kernel_rfl) Try.func8
    (ChangeSpec.witness6 (enc := enc) (C := Try.checked) false ⟨#[], #[.agg #[.slice none 0 0, .slice none 0 0], .string ⟨#[]⟩, .int .u8 0], []⟩ 8 (by kernel_rfl) (by kernel_rfl) (by kernel_rfl) (by kernel_rfl)) ?_
  intro W base args ds gs before hval0 hW _ _
  have hval : ∀ (j : Nat) t v, Try.f8.params[j]? = some t → args[j]? = some v → Value.okWide Try.prog W .any base t v := hval0
  have hW' := hW
  obtain ⟨p, q, hA0, hV, rfl, hfz, hnd⟩ := hW
  have hA : DataW.TrodAll enc Try.prog W 0 (fun _ => true) true Try.f8.params.toList args.toList ds p := hA0
  rw [Try.params8] at hA hval
  obtain ⟨v0, v1, v2, d0, d1, d2, p0, p1, p2, rfl, rfl, rfl, h0, h1, h2⟩ := trodAll_three hA
  obtain ⟨x, l, rfl, hX⟩ := open_dfa (hval 0 25 v0 rfl rfl) h0
  obtain ⟨t, rfl, _⟩ := open_str3 (hval 1 9 v1 rfl rfl) h1
  obtain ⟨c, hc, rfl⟩ := open_u83 (hval 2 5 v2 rfl rfl) h2
  refine (dfaSteps_any x l t c hc W hX).mono fun e W' ⟨he, hw⟩ => ?_
  subst he
  exact ⟨_, rfl, law_post hW' rfl rfl (by kernel_rfl) (by rw [Try.params8]; intro t ht; simp at ht; rcases ht with rfl | rfl | rfl; exact ⟨by kernel_rfl, of_decide_eq_true (by kernel_rfl)⟩; exact ⟨by kernel_rfl, of_decide_eq_true (by kernel_rfl)⟩; exact ⟨by kernel_rfl, of_decide_eq_true (by kernel_rfl)⟩) hw⟩

theorem dfaSteps_holds : Rows.DfaStepsSaid :=
  OpenClaim.holds_of_wide 8 Try.f8 rfl rfl rfl rfl rfl rfl rfl ⟨rfl, rfl, rfl, rfl, rfl⟩ rfl rfl rfl rfl rfl (by kernel_rfl) Try.func8 (by kernel_rfl)
    (of_decide_eq_true (by kernel_rfl)) (by unfold Func.isWrapper; first | (rw [if_pos (by decide +kernel)]; kernel_rfl) | (rw [if_neg (by decide +kernel)]; exact ⟨rfl, rfl⟩))
    (fun os started H enc _ => dfaSteps_lifted os started H enc)
end Go.Proofs.Ytngbfjimmdkfeaa

