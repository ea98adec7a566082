/- Texts of layer 2 joined: Ke Kf. -/
import Derived.Test.YtpbceejjkdmclaaJK3
import Derived.Test.YtpbceejjkdmclaaJM
set_option linter.unusedVariables false
set_option linter.unusedSimpArgs false
/- Layer 3: the chapter's examples hold. -/
namespace Go.Proofs.Ytpbceejjkdmclaa
open Go.RowKit Go.Shelf

attribute [local go_sem] Oper.semAt_some

theorem lit_ints (w : World) (l : List Int) : Ints (w.alloc (.cells ((l.map (fun v => Value.int .i64 v)).toArray) 3)) (some ⟨w.heap.size, 0, none⟩) l.length l ∨ 9223372036854775807 < l.length := by
  by_cases h : l.length ≤ 9223372036854775807
  · refine .inl ⟨Nat.le_refl _, h, fun e => (by cases e), fun i _ => ⟨_, _, rfl⟩, fun b off e i hi => ?_⟩
    cases e
    have := (Blk.new w 3 ((l.map (fun v => Value.int .i64 v)).toArray)).cell i
    rw [Nat.zero_add, this]
    simp [List.getElem?_eq_getElem hi]
  · exact .inr (by omega)
theorem lit2_ints (w : World) : Ints (w.alloc (.cells #[.int .i64 0, .int .i64 1] 3)) (some ⟨w.heap.size, 0, none⟩) 2 [0, 1] := (lit_ints w [0, 1]).resolve_right (by simp)
theorem lit1_ints (w : World) : Ints (w.alloc (.cells #[.int .i64 1] 3)) (some ⟨w.heap.size, 0, none⟩) 1 [1] := (lit_ints w [1]).resolve_right (by simp)

set_option maxRecDepth 100000 in
set_option maxHeartbeats 4000000 in
theorem live3_any (w : World) : Calls Try.prog 9 #[] w fun e w' => e = .returned (.bool true) ∧ Below w.heap.size w w' := by
  obtain ⟨q1, q2, q3, q4⟩ := st_err
  obtain ⟨z1, z2⟩ := st_size
  have hB1 := build_ok q2 (by rw [q4]; omega)
  have hB2 := build_ok q1 (by rw [q3]; omega)
  have Hb1 : Hid (∀ (a : Option Addr) (cap : Nat) (w : World), Items w a cap fS1 → Calls Try.prog 13 #[.slice a 1 cap] w fun e w' => ∃ ea ec ga gc, e = .returned (.tuple #[.agg #[.int .i64 4, .int .i64 0, .slice ea 1 ec, .slice ga 4 gc], .int .i64 0]) ∧ Below w.heap.size w w') := Lib.hid (fun a cap w h => (build_any a 1 cap fS1 w rfl h (by rw [z2]; omega) (by rw [q4]; omega)).mono (by
    rintro e w' ⟨⟨p, rfl, _⟩, hb⟩
    rw [hB1]
    exact ⟨p.ea, p.ec, p.ga, p.gc, rfl, hb⟩))
  have Hb2 : Hid (∀ (a : Option Addr) (cap : Nat) (w : World), Items w a cap fSt → Calls Try.prog 13 #[.slice a 2 cap] w fun e w' => ∃ p : NfL, e = .returned (.tuple #[.agg #[.int .i64 5, .int .i64 0, .slice p.ea 2 p.ec, .slice p.ga 5 p.gc], .int .i64 0]) ∧ NfAt w' (autF fSt) p ∧ Below w.heap.size w w') := Lib.hid (fun a cap w h => (build_any a 2 cap fSt w rfl h (by rw [z1]; omega) (by rw [q3]; omega)).mono (by
    rintro e w' ⟨⟨p, rfl, hp⟩, hb⟩
    rw [hB2] at hp ⊢
    exact ⟨p, rfl, hp, hb⟩))
  have ho := okF_err _ q1
  have hlk := aut_link ho (by rw [q3]; omega)
  obtain ⟨m1, m2, m3⟩ := st_n
  have Hr : Hid (∀ (p : NfL) (s : ByteArray) (w : World), s.size ≤ 1 → NfAt w (autF fSt) p → Calls Try.prog 23 #[.agg #[.int .i64 5, .int .i64 0, .slice p.ea 2 p.ec, .slice p.ga 5 p.gc], .string s] w fun e w' => ∃ oa oc, e = .returned (.slice oa (runP (autF fSt) s.data.toList).length oc) ∧ IntsN w' oa oc (runP (autF fSt) s.data.toList) ∧ Below w.heap.size w w') := Lib.hid (fun p s w hs h => run_any (autF fSt) p s w h hlk (by rw [m2]; omega) (by rw [m3]; omega) (by omega))
  have Hc : Hid (∀ (p : NfL) (w : World), NfAt w (autF fSt) p → Calls Try.prog 10 #[.agg #[.int .i64 5, .int .i64 0, .slice p.ea 2 p.ec, .slice p.ga 5 p.gc]] w fun e w' => e = .returned (.int .i64 0) ∧ Below w.heap.size w w') := Lib.hid (fun p w h => by
    have := ncheck_any (autF fSt) p w h
    rw [st_nfB] at this
    exact this)
  clear hB1 hB2 q1 q2 q3 q4 z1 z2 ho hlk m1 m2 m3
  go_enter Try.func9, Try.ntmps9
  go_wp2_with (fail)
  refine (star_any _).mono ?_
  rintro e w1 ⟨b1, rfl, he1, hb1⟩
  have hi1 : Items w1 (some ⟨b1, 3, none⟩) 1 fS1 := Items.of he1.2.2.2 (by decide) (by omega)
  have Hi1 := Lib.hid hi1
  clear he1 hi1
  go_wp2_with (fail)
  refine (Hb1.out _ _ _ Hi1.out).mono ?_
  rintro e w2 ⟨ea, ec, ga, gc, rfl, hb2⟩
  have hb02 := hb1.trans (hb2.mono hb1.size)
  have hA2 := Blk.new w2 25 #[.int .i64 4, .int .i64 0, .slice ea 1 ec, .slice ga 4 gc]
  have hb03 := hb02.alloc hb02.size (.cells #[.int .i64 4, .int .i64 0, .slice ea 1 ec, .slice ga 4 gc] 25)
  clear hb1 hb2
  go_wp2_with (fail)
  refine (star_any _).mono ?_
  rintro e w3 ⟨b3, rfl, he3, hb3⟩
  have hA3 := hA2.below hb3 hA2.lt
  have hb04 := hb03.trans (hb3.mono hb03.size)
  have Hi3 := Lib.hid (Items.of (cap := 2) he3 (by decide) (by omega))
  clear hA2 hb03 hb3 he3
  go_wp2_with (fail)
  refine (Hb2.out _ _ _ Hi3.out).mono ?_
  rintro e w4 ⟨p, rfl, hp, hb4⟩
  obtain ⟨pa, pc, pg, ph⟩ := p
  dsimp only at *
  have hA4 := (hA3.below hb4 hA3.lt).alloc (.cells #[.int .i64 5, .int .i64 0, .slice pa 2 pc, .slice pg 5 ph] 25)
  have hM4 := Blk.new w4 25 #[.int .i64 5, .int .i64 0, .slice pa 2 pc, .slice pg 5 ph]
  have hb05 := (hb04.trans (hb4.mono hb04.size))
  have hb06 := hb05.alloc hb05.size (.cells #[.int .i64 5, .int .i64 0, .slice pa 2 pc, .slice pg 5 ph] 25)
  have hp6 := hp.grown ((Below.refl _ w4).alloc (Nat.le_refl _) (.cells #[.int .i64 5, .int .i64 0, .slice pa 2 pc, .slice pg 5 ph] 25))
  have hm2 : (2 : Nat) ≤ pc ∧ pc ≤ 9223372036854775807 ∧ 5 ≤ ph ∧ ph ≤ 9223372036854775807 := ⟨hp.ends.le, hp.ends.max, hp.es.le, hp.es.max⟩
  clear hA3 hb4 hp hb04 hb05
  have x0 := hA4.cell 0
  have x3 := hA4.cell 3
  have xl := hA4.lt
  have y0 := hM4.cell 0
  have y1 := hM4.cell 1
  have y2 := hM4.cell 2
  have y3 := hM4.cell 3
  have yl := hM4.lt
  simp only [List.getElem?_cons_zero, List.getElem?_cons_succ] at x0 x3 y0 y1 y2 y3
  have Hp6 := Lib.hid hp6
  have HM6 := Lib.hid hM4
  have HB6 := Lib.hid hb06
  clear hp6 hM4 hb06 hA4
  go_wp2_with (fail)
  refine (Hr.out ⟨pa, pc, pg, ph⟩ ⟨#[97]⟩ _ (by decide) Hp6.out).mono ?_
  rintro e w7 ⟨oa, oc, rfl, hi7, hb7⟩
  rw [show runP (autF fSt) (⟨#[97]⟩ : ByteArray).data.toList = [0, 1] from st_run.1] at hi7 ⊢
  have HM7 := Lib.hid (HM6.out.below hb7 HM6.out.lt)
  have HB7 := Lib.hid (HB6.out.trans (hb7.mono HB6.out.size))
  have Hp7 := Lib.hid (Hp6.out.grown hb7)
  have Hi7 := Lib.hid (hi7.grown ((Below.refl _ w7).alloc (Nat.le_refl _) (.cells #[.int .i64 0, .int .i64 1] 3)))
  have HL7 := Lib.hid (lit2_ints w7)
  clear hi7 hb7 x0 x3 xl y0 y1 y2 y3 yl HM6 HB6 Hp6
  simp only [List.length_cons, List.length_nil, Nat.reduceAdd]
  have y0 := HM7.out.cell 0
  have y1 := HM7.out.cell 1
  have y2 := HM7.out.cell 2
  have y3 := HM7.out.cell 3
  have yl := HM7.out.lt
  simp only [List.getElem?_cons_zero, List.getElem?_cons_succ] at y0 y1 y2 y3
  go_wp2_with (fail)
  refine (sameInts_any oa (some ⟨w7.heap.size, 0, none⟩) oc 2 [0, 1] [0, 1] _ Hi7.out HL7.out).mono ?_
  rintro e w8 ⟨rfl, hb8⟩
  have hb78 := ((Below.refl _ w7).alloc (Nat.le_refl _) (.cells #[.int .i64 0, .int .i64 1] 3)).trans (hb8.mono (by simp))
  have HM8 := Lib.hid (HM7.out.below hb78 HM7.out.lt)
  have HB8 := Lib.hid (HB7.out.trans (hb78.mono HB7.out.size))
  have Hp8 := Lib.hid (Hp7.out.grown hb78)
  clear hb8 hb78 HM7 HB7 Hp7 Hi7 HL7 y0 y1 y2 y3 yl
  have y0 := HM8.out.cell 0
  have y1 := HM8.out.cell 1
  have y2 := HM8.out.cell 2
  have y3 := HM8.out.cell 3
  have yl := HM8.out.lt
  simp only [List.getElem?_cons_zero, List.getElem?_cons_succ] at y0 y1 y2 y3
  simp only [decide_true]
  go_wp2_with (fail)
  refine (Hr.out ⟨pa, pc, pg, ph⟩ ⟨#[]⟩ _ (by decide) Hp8.out).mono ?_
  rintro e w9 ⟨oa9, oc9, rfl, hi9, hb9⟩
  rw [show runP (autF fSt) (⟨#[]⟩ : ByteArray).data.toList = [1] from st_run.2] at hi9 ⊢
  have HM9 := Lib.hid (HM8.out.below hb9 HM8.out.lt)
  have HB9 := Lib.hid (HB8.out.trans (hb9.mono HB8.out.size))
  have Hp9 := Lib.hid (Hp8.out.grown hb9)
  have Hi9 := Lib.hid (hi9.grown ((Below.refl _ w9).alloc (Nat.le_refl _) (.cells #[.int .i64 1] 3)))
  have HL9 := Lib.hid (lit1_ints w9)
  clear hi9 hb9 y0 y1 y2 y3 yl HM8 HB8 Hp8
  simp only [List.length_cons, List.length_nil, Nat.reduceAdd]
  have y0 := HM9.out.cell 0
  have y1 := HM9.out.cell 1
  have y2 := HM9.out.cell 2
  have y3 := HM9.out.cell 3
  have yl := HM9.out.lt
  simp only [List.getElem?_cons_zero, List.getElem?_cons_succ] at y0 y1 y2 y3
  go_wp2_with (fail)
  refine (sameInts_any oa9 (some ⟨w9.heap.size, 0, none⟩) oc9 1 [1] [1] _ Hi9.out HL9.out).mono ?_
  rintro e wa ⟨rfl, hba⟩
  have hb9a := ((Below.refl _ w9).alloc (Nat.le_refl _) (.cells #[.int .i64 1] 3)).trans (hba.mono (by simp))
  have HMa := Lib.hid (HM9.out.below hb9a HM9.out.lt)
  have HBa := Lib.hid (HB9.out.trans (hb9a.mono HB9.out.size))
  have Hpa := Lib.hid (Hp9.out.grown hb9a)
  clear hba hb9a HM9 HB9 Hp9 Hi9 HL9 y0 y1 y2 y3 yl
  have y0 := HMa.out.cell 0
  have y1 := HMa.out.cell 1
  have y2 := HMa.out.cell 2
  have y3 := HMa.out.cell 3
  have yl := HMa.out.lt
  simp only [List.getElem?_cons_zero, List.getElem?_cons_succ] at y0 y1 y2 y3
  simp only [decide_true]
  go_wp2_with (fail)
  refine (Hc.out ⟨pa, pc, pg, ph⟩ _ Hpa.out).mono ?_
  rintro e wb ⟨rfl, hbb⟩
  have HBb := Lib.hid (HBa.out.trans (hbb.mono HBa.out.size))
  clear hbb y0 y1 y2 y3 yl
  go_wp2_with (fail)
  exact bodyPost_ret (v := .bool true) (by simp [results, Try.results9, go_sem]; try rfl) rfl ⟨rfl, HBb.out⟩
end Go.Proofs.Ytpbceejjkdmclaa

/- Layer 3: few; the reference's In; what is few is small. -/
namespace Go.Proofs.Ytpbceejjkdmclaa
open Go.RowKit Go.Shelf

attribute [local go_sem] Oper.semAt_some

theorem st_size3 : ∀ (f : Fo), stF f + f.len ≤ 3 * f.size
  | .nil => Nat.le_refl _
  | .cons h k r => by
    have h1 := st_size3 k
    have h2 := st_size3 r
    have h3 : stX h k.len (stF k) ≤ stF k + k.len + 2 := by unfold stX; split <;> (try split) <;> (try split) <;> omega
    simp only [stF, Fo.len, Fo.size]
    omega
/-- All of the list are few. -/
def smallF (m : Int) (f : Fo) : Bool := !bigF m f
theorem bigF_size {m : Nat} : ∀ (f : Fo), bigF (m : Int) f = false → f.size ≤ m * f.len
  | .nil, _ => Nat.zero_le _
  | .cons h k r, e => by
    simp only [bigF, Bool.or_eq_false_iff, Bool.not_eq_false'] at e
    have h1 := bigF_size r e.2
    have h2 := e.1
    unfold fewB at h2
    have h3 := of_decide_eq_true h2
    have h4 := k.size_wt
    simp only [Fo.size, Fo.len]
    rw [Nat.mul_succ]
    omega
theorem ElAt.bigm {w : World} {b off k sc xcap : Nat} {kids ks : Fo} {hd : Hd} {sa xa : Option Addr} (m : Int) (h : ElAt w b off k kids hd ks sa sc xa xcap) : bigF m (kids.drop k) = (!fewB m hd ks || bigF m (kids.drop (k + 1))) := by
  rw [h.cut, Fo.drop_succ _ _ _ _ _ h.cut]
  simp only [bigF]

set_option maxRecDepth 100000 in
set_option maxHeartbeats 1000000 in
theorem few3_any (f : Fo) (a : Option Addr) (cap : Nat) (w : World) (hI : Items w a cap f) :
    Calls Try.prog 25 #[.slice a f.len cap] w fun e w' => e = .returned (.bool (decide (f.len ≤ 20) && !bigF 120 f)) ∧ Below w.heap.size w w' := by
  have hlm : f.len ≤ cap ∧ cap ≤ 9223372036854775807 := ⟨hI.le, hI.max⟩
  obtain ⟨L, HL⟩ : ∃ L, Hid (f.len = L) := ⟨_, Lib.hid rfl⟩
  rw [HL.out] at hlm ⊢
  obtain ⟨B, HB⟩ : ∃ B, Hid (bigF 120 f = B) := ⟨_, Lib.hid rfl⟩
  rw [HB.out]
  by_cases h20 : 20 < L
  · have h20I : (20 : Int) < (L : Int) := by omega
    have HF : Hid ((decide (L ≤ 20) && !B) = false) := Lib.hid (by rw [decide_eq_false (by omega)]; rfl)
    rw [HF.out]
    go_enter Try.func25, Try.ntmps25
    go_wp2_with (fail)
    exact bodyPost_ret (v := .bool false) (by simp [results, Try.results25, go_sem]; try rfl) rfl ⟨rfl, Below.refl _ w⟩
  have h20I : ¬ (20 : Int) < (L : Int) := by omega
  have HF : Hid ((decide (L ≤ 20) && !B) = !B) := Lib.hid (by rw [decide_eq_true (by omega)]; rfl)
  rw [HF.out]
  clear HF h20
  go_enter Try.func25, Try.ntmps25
  go_wp2_with (fail)
  go_loopw [4, 10] (fun _ i wr => ∃ (k : Nat), k ≤ L ∧ i = .int .i64 k ∧ B = bigF 120 (f.drop k) ∧ Below w.heap.size w wr) (fun _ i _ => L - (intOf i).toNat)
  case atStart => exact ⟨0, by omega, rfl, HB.out.symm, Below.refl _ w⟩
  case round =>
    obtain ⟨k, hk, rfl, hr, hbr⟩ := hrel
    have HR := Lib.hid hr
    clear hr
    by_cases hlt : k < L
    · have hkI : (k : Int) < (L : Int) := by omega
      have hkI0 : (0 : Int) ≤ (k : Int) := by omega
      obtain ⟨b, off, hd, ks, sa, sc, xa, xcap, rfl, hat⟩ := (hI.grown hbr).at (k := k) (by rw [HL.out]; exact hlt)
      have HM := Lib.hid (hat.bigm 120)
      obtain ⟨x0, x1, x2, hsp, hIk, hcut⟩ := hat
      clear hcut
      have hmx := And.intro hIk.le hIk.max
      have hmx2 := And.intro hsp.le hsp.max
      have hbl := World.block_lt_of_cell? _ _ x0
      have hnx := (Below.refl wr.heap.size wr).alloc (Nat.le_refl _) (.cells #[.int .i64 hd.k, .slice sa hd.set.length sc, .slice xa ks.len xcap] 35)
      have Hc := Lib.hid (few_B hd ks sa sc xa xcap 120 _ (hsp.grown hnx) (hIk.grown hnx) (by omega) (by omega))
      have hbn : Below w.heap.size w (wr.alloc (.cells #[.int .i64 hd.k, .slice sa hd.set.length sc, .slice xa ks.len xcap] 35)) := hbr.trans (hnx.mono hbr.size)
      clear hnx hIk hsp
      dsimp only [itemV] at Hc
      go_wp2_with (fail)
      refine Hc.out.mono ?_
      rintro e w4 ⟨rfl, hb4⟩
      have hb5 : Below w.heap.size w w4 := hbn.trans (hb4.mono hbn.size)
      clear hb4 hbn x0 x1 x2
      obtain ⟨q, Hq⟩ : ∃ q, Hid (fewB 120 hd ks = q) := ⟨_, Lib.hid rfl⟩
      rw [Hq.out] at HM ⊢
      cases q
      · have HT : Hid (B = true) := Lib.hid (by rw [HR.out, HM.out]; rfl)
        go_wp2_with (fail)
        exact bodyPost_ret (v := .bool false) (by simp [results, Try.results25, go_sem]; try rfl) rfl ⟨ret_bool (by rw [HT.out]; rfl), hb5⟩
      · go_wp2_with (fail)
        exact ⟨⟨k + 1, by omega, by simp, by rw [HR.out, HM.out]; rfl, hb5⟩, by simp [intOf]; omega⟩
    · obtain rfl : k = L := by omega
      have hkI : ¬ (k : Int) < (k : Int) := by omega
      have HK : Hid (B = false) := Lib.hid (by rw [HR.out, Fo.drop_all (by rw [HL.out]; exact Nat.le_refl _)]; rfl)
      go_wp2_with (fail)
      exact bodyPost_ret (v := .bool true) (by simp [results, Try.results25, go_sem]; try rfl) rfl ⟨ret_bool (by rw [HK.out]; rfl), hbr⟩

set_option maxRecDepth 100000 in
set_option maxHeartbeats 1000000 in
theorem inI_any (l : List Nat) (a : Option Addr) (cap : Nat) (v : Nat) (w : World) (hl : IntsN w a cap l) :
    Calls Try.prog 26 #[.slice a l.length cap, .int .i64 (v : Int)] w fun e w' => e = .returned (.bool (decide (v ∈ l))) ∧ w' = w := by
  have hlm : l.length ≤ cap ∧ cap ≤ 9223372036854775807 := ⟨by have := hl.le; rw [List.length_map] at this; exact this, hl.max⟩
  obtain ⟨L, HL⟩ : ∃ L, Hid (l.length = L) := ⟨_, Lib.hid rfl⟩
  rw [HL.out] at hlm ⊢
  obtain ⟨B, HB⟩ : ∃ B, Hid (decide (v ∈ l) = B) := ⟨_, Lib.hid rfl⟩
  rw [HB.out]
  go_enter Try.func26, Try.ntmps26
  go_wp2_with (fail)
  go_loopw [6, 9] (fun _ i wr => ∃ (k : Nat), k ≤ L ∧ i = .int .i64 k ∧ B = decide (v ∈ l.drop k) ∧ wr = w) (fun _ i _ => L - (intOf i).toNat)
  case atStart => exact ⟨0, by omega, rfl, HB.out.symm, rfl⟩
  case round =>
    obtain ⟨k, hk, rfl, hr, rfl⟩ := hrel
    have HR := Lib.hid hr
    clear hr
    by_cases hlt : k < L
    · have hkI : (k : Int) < (L : Int) := by omega
      have hkI0 : (0 : Int) ≤ (k : Int) := by omega
      have hkl : k < l.length := by rw [HL.out]; exact hlt
      obtain ⟨b, off, rfl⟩ := hl.at_ k (by rw [List.length_map]; exact hkl)
      have c0 := hl.cell b off rfl k (by rw [List.length_map]; exact hkl)
      rw [List.getElem_map] at c0
      have hbl := World.block_lt_of_cell? _ _ c0
      have hdr : Hid (l.drop k = l[k] :: l.drop (k + 1)) := Lib.hid (List.drop_eq_getElem_cons hkl)
      obtain ⟨u, hu⟩ : ∃ u, Hid (l[k] = u) := ⟨_, Lib.hid rfl⟩
      rw [hu.out] at c0 hdr
      by_cases he : u = v
      · have HT : Hid (B = true) := Lib.hid (by rw [HR.out, hdr.out, he]; simp)
        subst he
        go_wp2_with (fail)
        exact bodyPost_ret (v := .bool true) (by simp [results, Try.results26, go_sem]; try rfl) rfl ⟨ret_bool (by rw [HT.out]), rfl⟩
      · have heI : ((u : Int) == (v : Int)) = false := by rw [beq_eq_false_iff_ne]; omega
        have HN : Hid (B = decide (v ∈ l.drop (k + 1))) := Lib.hid (by
          rw [HR.out, hdr.out]
          simp [Ne.symm he])
        go_wp2_with (fail)
        exact ⟨⟨k + 1, by omega, by simp, HN.out, trivial⟩, by simp [intOf]; omega⟩
    · obtain rfl : k = L := by omega
      have hkI : ¬ (k : Int) < (k : Int) := by omega
      have HK : Hid (B = false) := Lib.hid (by rw [HR.out, List.drop_eq_nil_of_le (by rw [HL.out]; exact Nat.le_refl _)]; simp)
      go_wp2_with (fail)
      exact bodyPost_ret (v := .bool false) (by simp [results, Try.results26, go_sem]; try rfl) rfl ⟨ret_bool (by rw [HK.out]), rfl⟩
end Go.Proofs.Ytpbceejjkdmclaa
