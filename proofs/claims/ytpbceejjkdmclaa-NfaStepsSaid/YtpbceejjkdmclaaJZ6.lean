/- Texts of layer 2 joined: Zg PNc. -/
import Derived.Test.YtpbceejjkdmclaaJZ5
import Derived.Test.YtpbceejjkdmclaaJCk
import Derived.Test.YtpbceejjkdmclaaJNm
set_option linter.unusedVariables false
set_option linter.unusedSimpArgs false
/- The law NfaCloses. -/
namespace Go.Proofs.Ytpbceejjkdmclaa
open Go.RowKit Go.Shelf

attribute [local go_sem] Oper.semAt_some

set_option maxRecDepth 100000 in
set_option maxHeartbeats 2000000 in
theorem nfaCloses_any (x : Nf) (p : NfL) (sa sb : List Int) (a a2 : Option Addr) (cap cap2 : Nat) (w : World) (hx : NfAt w x p) (hs : Ints w a cap sa) (hs2 : Ints w a2 cap2 sb) :
    Calls Try.prog 7 #[.agg #[.int .i64 x.n, .int .i64 x.s, .slice p.ea x.ends.length p.ec, .slice p.ga x.es.length p.gc], .slice a sa.length cap, .slice a2 sb.length cap2] w fun e w' => e = .returned (.bool true) ∧ Below w.heap.size w w' := by
  obtain ⟨ea, ec, ga, gc⟩ := p
  have hlm : x.ends.length ≤ ec ∧ ec ≤ 9223372036854775807 := ⟨hx.ends.le, hx.ends.max⟩
  have hlm2 : x.es.length ≤ gc ∧ gc ≤ 9223372036854775807 := ⟨hx.es.le, hx.es.max⟩
  have hle := hs.le
  have hmx := hs.max
  have hle2 := hs2.le
  have hmx2 := hs2.max
  dsimp only at *
  have hA0 := Blk.new w 25 #[.int .i64 x.n, .int .i64 x.s, .slice ea x.ends.length ec, .slice ga x.es.length gc]
  have hb0 : Below w.heap.size w (w.alloc (.cells #[.int .i64 x.n, .int .i64 x.s, .slice ea x.ends.length ec, .slice ga x.es.length gc] 25)) := (Below.refl _ w).alloc (Nat.le_refl _) _
  obtain ⟨W0, hW0⟩ : ∃ W, Hid (w.alloc (.cells #[.int .i64 x.n, .int .i64 x.s, .slice ea x.ends.length ec, .slice ga x.es.length gc] 25) = W) := ⟨_, Lib.hid rfl⟩
  rw [hW0.out] at hA0 hb0
  have hA0 : Blk W0 w.heap.size 25 [.int .i64 x.n, .int .i64 x.s, .slice ea x.ends.length ec, .slice ga x.es.length gc] := hA0
  have Hx := Lib.hid (fun V => fun hV : Below w.heap.size w V => hx.grown hV)
  have Hsa := Lib.hid (fun V => fun hV : Below w.heap.size w V => hs.grown hV)
  have Hsb := Lib.hid (fun V => fun hV : Below w.heap.size w V => hs2.grown hV)
  have Hsm := Lib.hid (fun V => fun hV : Below w.heap.size w V => small3_any x ⟨ea, ec, ga, gc⟩ V (hx.grown hV))
  have Hck := Lib.hid (fun V => fun hV : Below w.heap.size w V => refNCheck_any x ⟨ea, ec, ga, gc⟩ V (hx.grown hV))
  dsimp only at Hsm Hck
  obtain ⟨SN, hSN⟩ : ∃ q, Hid (smallN x = q) := ⟨_, Lib.hid rfl⟩
  obtain ⟨NB, hNB⟩ : ∃ q, Hid (nfB x = q) := ⟨_, Lib.hid rfl⟩
  rw [hSN.out] at Hsm
  rw [hNB.out] at Hck
  have HB0 := Lib.hid hb0
  have HA0 := Lib.hid hA0
  obtain ⟨S1, hS1⟩ : ∃ n, Hid (sa.length = n) := ⟨_, Lib.hid rfl⟩
  obtain ⟨S2, hS2⟩ : ∃ n, Hid (sb.length = n) := ⟨_, Lib.hid rfl⟩
  rw [hS1.out] at hle ⊢
  rw [hS2.out] at hle2 ⊢
  clear hx hs hs2 hb0 hA0
  go_enter Try.func7, Try.ntmps7
  go_wp2_with (fail)
  rw [hW0.out]
  refine (live3_any _).mono ?_
  rintro e w1 ⟨rfl, hb1⟩
  have hA1 := HA0.out.below hb1 HA0.out.lt
  have hbw1 := HB0.out.trans (hb1.mono HB0.out.size)
  have Hc := Lib.hid (Hsm.out w1 hbw1)
  clear hb1 HA0 HB0 Hsm
  have x0 := hA1.cell 0
  have x1 := hA1.cell 1
  have x2 := hA1.cell 2
  have x3 := hA1.cell 3
  have xl := hA1.lt
  simp only [List.getElem?_cons_zero, List.getElem?_cons_succ] at x0 x1 x2 x3
  go_wp2_with (fail)
  refine Hc.out.mono ?_
  rintro e w2 ⟨rfl, hb2⟩
  have hA2 := hA1.below hb2 hA1.lt
  have hbw2 := hbw1.trans (hb2.mono hbw1.size)
  have Hc2 := Lib.hid (Hck.out w2 hbw2)
  clear hb2 hA1 hbw1 Hc Hck x0 x1 x2 x3 xl
  have x0 := hA2.cell 0
  have x1 := hA2.cell 1
  have x2 := hA2.cell 2
  have x3 := hA2.cell 3
  have xl := hA2.lt
  simp only [List.getElem?_cons_zero, List.getElem?_cons_succ] at x0 x1 x2 x3
  cases SN
  case false =>
    go_wp2_with (fail)
    exact bodyPost_ret (v := .bool true) (by simp [results, Try.results7, go_sem]; try rfl) rfl ⟨rfl, hbw2⟩
  go_wp2_with (fail)
  refine Hc2.out.mono ?_
  rintro e w3 ⟨rfl, hb3⟩
  have hA3 := hA2.below hb3 hA2.lt
  have hbw3 := hbw2.trans (hb3.mono hbw2.size)
  clear hb3 hA2 hbw2 Hc2 x0 x1 x2 x3 xl
  have x0 := hA3.cell 0
  have x1 := hA3.cell 1
  have x2 := hA3.cell 2
  have x3 := hA3.cell 3
  have xl := hA3.lt
  simp only [List.getElem?_cons_zero, List.getElem?_cons_succ] at x0 x1 x2 x3
  cases NB
  case false =>
    have h30 : (if false = true then (0 : Int) else 30) = 30 := rfl
    rw [h30]
    go_wp2_with (fail)
    exact bodyPost_ret (v := .bool true) (by simp [results, Try.results7, go_sem]; try rfl) rfl ⟨rfl, hbw3⟩
  have h30 : (if true = true then (0 : Int) else 30) = 0 := rfl
  rw [h30]
  clear h30
  by_cases hs50 : 50 < S1
  · have hsI2 : (50 : Int) < (S1 : Int) := by omega
    go_wp2_with (fail)
    exact bodyPost_ret (v := .bool true) (by simp [results, Try.results7, go_sem]; try rfl) rfl ⟨rfl, hbw3⟩
  have hsI2 : ¬ (50 : Int) < (S1 : Int) := by omega
  by_cases hs50b : 50 < S2
  · have hsI3 : (50 : Int) < (S2 : Int) := by omega
    go_wp2_with (fail)
    exact bodyPost_ret (v := .bool true) (by simp [results, Try.results7, go_sem]; try rfl) rfl ⟨rfl, hbw3⟩
  have hsI3 : ¬ (50 : Int) < (S2 : Int) := by omega
  have HL := Lib.hid (nfB_link hNB.out)
  obtain ⟨hq1, hq2⟩ := smallN_len hSN.out
  have Hq := Lib.hid (And.intro hq1 hq2)
  obtain ⟨hn1, hn2, hn3⟩ := link_n HL.out
  obtain ⟨N, hN⟩ : ∃ n, Hid (x.n.toNat = n) := ⟨_, Lib.hid rfl⟩
  rw [hN.out] at hn1 hn2
  have Hn1 := Lib.hid hn1
  have HA3 := Lib.hid hA3
  have HB3 := Lib.hid hbw3
  clear hn1 hn3 hA3 hbw3
  go_wp2_with (fail)
  clear x0 x1 x2 x3 xl
  go_loopw [8, 10, 42] (fun ov _ iv wr => ∃ (k : Nat) (oa : Option Addr) (oc : Nat) (l : List Nat), k ≤ S1 ∧ iv = .int .i64 (k : Int) ∧ ov = .slice oa l.length oc ∧ (IntsN wr oa oc l ∧ Rising l ∧ (∀ v ∈ l, v < N) ∧ True) ∧ Below w3.heap.size w3 wr) (fun _ _ iv _ => S1 - (intOf iv).toNat)
  case atStart => exact ⟨0, none, 0, [], Nat.zero_le _, rfl, rfl, ⟨Ints.nil _, List.Pairwise.nil, fun v h => (by cases h), trivial⟩, Below.refl _ _⟩
  case round =>
    obtain ⟨ka, oaa, oca, la, hk, rfl, rfl, ⟨hi, hr, hlt0, hex⟩, hbr⟩ := hrel
    have hll := rising_len la 0 N hr (fun v hv => ⟨Nat.zero_le _, hlt0 v hv⟩)
    have hA := HA3.out.below hbr HA3.out.lt
    have Hbwa := Lib.hid (HB3.out.trans (hbr.mono HB3.out.size))
    have Hbr := Lib.hid hbr
    have hile := hi.le
    have himx := hi.max
    rw [List.length_map] at hile
    have HIa := Lib.hid hi
    have HR := Lib.hid hr
    have HLta := Lib.hid hlt0
    have HExa := Lib.hid hex
    have HAra := Lib.hid hA
    clear hi hr hlt0 hbr hex
    have x0 := hA.cell 0
    have x1 := hA.cell 1
    have x2 := hA.cell 2
    have x3 := hA.cell 3
    have xl := hA.lt
    simp only [List.getElem?_cons_zero, List.getElem?_cons_succ] at x0 x1 x2 x3
    by_cases hlt : ka < S1
    · have hkI : (ka : Int) < (S1 : Int) := by omega
      have hkI0 : (0 : Int) ≤ (ka : Int) := by omega
      have hkl : ka < sa.length := by rw [hS1.out]; exact hlt
      obtain ⟨b, off, rfl⟩ := (Hsa.out wr Hbwa.out).at_ ka hkl
      have c0 := (Hsa.out wr Hbwa.out).cell b off rfl ka hkl
      have hbl := World.block_lt_of_cell? _ _ c0
      obtain ⟨v, hv⟩ : ∃ v, Hid (sa[ka] = v) := ⟨_, Lib.hid rfl⟩
      rw [hv.out] at c0
      clear hA
      by_cases hv0 : 0 ≤ v
      · by_cases hvn : v < x.n
        · obtain ⟨u, rfl⟩ : ∃ u : Nat, v = (u : Int) := ⟨v.toNat, by omega⟩
          have huN : u < N := by have := Hn1.out; omega
          have Hw := Lib.hid (refWith_any la u oaa oca wr HIa.out (by omega) (by omega) (fun v hv => by have := HLta.out v hv; omega))
          go_wp2_with (fail)
          refine Hw.out.mono ?_
          rintro e w5 ⟨⟨oa5, oc5, rfl, hi5⟩, hb5⟩
          have Hi5 := Lib.hid hi5
          have Hb5 := Lib.hid (Hbr.out.trans (hb5.mono Hbr.out.size))
          clear hi5 hb5 x0 x1 x2 x3 xl
          go_wp2_with (fail)
          exact ⟨⟨ka + 1, oa5, oc5, withP la u, by omega, by simp, rfl, ⟨Hi5.out, withP_rising HR.out u, fun v hv => ((withP_mem _ _ _).1 hv).elim (HLta.out v) (fun e => by omega), trivial⟩, Hb5.out⟩, by simp [intOf]; omega⟩
        · go_wp2_with (fail)
          exact ⟨⟨ka + 1, oaa, oca, la, by omega, by simp, rfl, ⟨HIa.out, HR.out, HLta.out, HExa.out⟩, Hbr.out⟩, by simp [intOf]; omega⟩
      · go_wp2_with (fail)
        exact ⟨⟨ka + 1, oaa, oca, la, by omega, by simp, rfl, ⟨HIa.out, HR.out, HLta.out, HExa.out⟩, Hbr.out⟩, by simp [intOf]; omega⟩
    · obtain rfl : ka = S1 := by omega
      have hkI : ¬ (ka : Int) < (ka : Int) := by omega
      obtain ⟨Va, rfl⟩ : ∃ V, V = wr := ⟨wr, rfl⟩
      have HIX := Lib.hid HIa.out
      have HRX := Lib.hid HR.out
      have HLtX := Lib.hid HLta.out
      obtain ⟨XX, hXX⟩ : ∃ XX, Hid (la = XX) := ⟨_, Lib.hid rfl⟩
      obtain ⟨xa, hxa⟩ : ∃ v, Hid (oaa = v) := ⟨_, Lib.hid rfl⟩
      obtain ⟨xc, hxc⟩ : ∃ v, Hid (oca = v) := ⟨_, Lib.hid rfl⟩
      rw [hXX.out, hxa.out, hxc.out] at HIX
      rw [hXX.out] at HRX HLtX
      rw [hXX.out, hxa.out, hxc.out]
      clear hA HIa HR HLta HExa hile himx hll hxa hxc
      go_wp2_with (fail)
      clear x0 x1 x2 x3 xl
      go_loopw [11, 13, 61] (fun ov _ iv wr => ∃ (k : Nat) (oa : Option Addr) (oc : Nat) (l : List Nat), k ≤ S2 ∧ iv = .int .i64 (k : Int) ∧ ov = .slice oa l.length oc ∧ (IntsN wr oa oc l ∧ Rising l ∧ (∀ v ∈ l, v < N) ∧ ∀ v, v ∈ XX → v ∈ l) ∧ Below Va.heap.size Va wr) (fun _ _ iv _ => S2 - (intOf iv).toNat)
      case atStart => exact ⟨0, xa, xc, XX, Nat.zero_le _, rfl, rfl, ⟨HIX.out, HRX.out, HLtX.out, fun v hv => hv⟩, Below.refl _ _⟩
      case round =>
        obtain ⟨kb, oab, ocb, lb, hk, rfl, rfl, ⟨hi, hr, hlt0, hex⟩, hbr⟩ := hrel
        have hll := rising_len lb 0 N hr (fun v hv => ⟨Nat.zero_le _, hlt0 v hv⟩)
        have hA := HAra.out.below hbr HAra.out.lt
        have Hbwb := Lib.hid (Hbwa.out.trans (hbr.mono Hbwa.out.size))
        have Hbr := Lib.hid hbr
        have hile := hi.le
        have himx := hi.max
        rw [List.length_map] at hile
        have HIb := Lib.hid hi
        have HR := Lib.hid hr
        have HLtb := Lib.hid hlt0
        have HExb := Lib.hid hex
        have HArb := Lib.hid hA
        clear hi hr hlt0 hbr hex
        have x0 := hA.cell 0
        have x1 := hA.cell 1
        have x2 := hA.cell 2
        have x3 := hA.cell 3
        have xl := hA.lt
        simp only [List.getElem?_cons_zero, List.getElem?_cons_succ] at x0 x1 x2 x3
        by_cases hlt : kb < S2
        · have hkI : (kb : Int) < (S2 : Int) := by omega
          have hkI0 : (0 : Int) ≤ (kb : Int) := by omega
          have hkl : kb < sb.length := by rw [hS2.out]; exact hlt
          obtain ⟨b, off, rfl⟩ := (Hsb.out wr Hbwb.out).at_ kb hkl
          have c0 := (Hsb.out wr Hbwb.out).cell b off rfl kb hkl
          have hbl := World.block_lt_of_cell? _ _ c0
          obtain ⟨v, hv⟩ : ∃ v, Hid (sb[kb] = v) := ⟨_, Lib.hid rfl⟩
          rw [hv.out] at c0
          clear hA
          by_cases hv0 : 0 ≤ v
          · by_cases hvn : v < x.n
            · obtain ⟨u, rfl⟩ : ∃ u : Nat, v = (u : Int) := ⟨v.toNat, by omega⟩
              have huN : u < N := by have := Hn1.out; omega
              have Hw := Lib.hid (refWith_any lb u oab ocb wr HIb.out (by omega) (by omega) (fun v hv => by have := HLtb.out v hv; omega))
              go_wp2_with (fail)
              refine Hw.out.mono ?_
              rintro e w5 ⟨⟨oa5, oc5, rfl, hi5⟩, hb5⟩
              have Hi5 := Lib.hid hi5
              have Hb5 := Lib.hid (Hbr.out.trans (hb5.mono Hbr.out.size))
              clear hi5 hb5 x0 x1 x2 x3 xl
              go_wp2_with (fail)
              exact ⟨⟨kb + 1, oa5, oc5, withP lb u, by omega, by simp, rfl, ⟨Hi5.out, withP_rising HR.out u, fun v hv => ((withP_mem _ _ _).1 hv).elim (HLtb.out v) (fun e => by omega), fun v hv => (withP_mem _ _ _).2 (.inl (HExb.out v hv))⟩, Hb5.out⟩, by simp [intOf]; omega⟩
            · go_wp2_with (fail)
              exact ⟨⟨kb + 1, oab, ocb, lb, by omega, by simp, rfl, ⟨HIb.out, HR.out, HLtb.out, HExb.out⟩, Hbr.out⟩, by simp [intOf]; omega⟩
          · go_wp2_with (fail)
            exact ⟨⟨kb + 1, oab, ocb, lb, by omega, by simp, rfl, ⟨HIb.out, HR.out, HLtb.out, HExb.out⟩, Hbr.out⟩, by simp [intOf]; omega⟩
        · obtain rfl : kb = S2 := by omega
          have hkI : ¬ (kb : Int) < (kb : Int) := by omega
          obtain ⟨Vb, rfl⟩ : ∃ V, V = wr := ⟨wr, rfl⟩
          obtain ⟨YY, hYY⟩ : ∃ YY, Hid (lb = YY) := ⟨_, Lib.hid rfl⟩
          rw [hYY.out] at HIb HR HLtb HExb hll hile ⊢
          have HLx : Hid (∀ v ∈ XX, v < x.n.toNat) := Lib.hid (by rw [hN.out]; exact HLtX.out)
          have HLy : Hid (∀ v ∈ YY, v < x.n.toNat) := Lib.hid (by rw [hN.out]; exact HLtb.out)
          obtain ⟨CC, hCC⟩ : ∃ C, Hid (cloP x (· ∈ XX) = C) := ⟨_, Lib.hid rfl⟩
          obtain ⟨DD, hDD⟩ : ∃ C, Hid (cloP x (· ∈ YY) = C) := ⟨_, Lib.hid rfl⟩
          have HXC : Hid (∀ v, v ∈ XX → v ∈ CC) := Lib.hid (fun v hv => by rw [← hCC.out]; exact (cloP_mem HL.out HLx.out v).2 (.base hv))
          have HCD : Hid (∀ v, v ∈ CC → v ∈ DD) := Lib.hid (fun v hv => by
            rw [← hCC.out] at hv
            rw [← hDD.out]
            exact (cloP_mem HL.out HLy.out v).2 (rn_mono HExb.out ((cloP_mem HL.out HLx.out v).1 hv)))
          have HLc : Hid (∀ v ∈ CC, v < x.n.toNat) := Lib.hid (fun v hv => by rw [← hCC.out] at hv; exact rn_lt HL.out HLx.out ((cloP_mem HL.out HLx.out v).1 hv))
          have HCC : Hid (cloP x (· ∈ CC) = CC) := Lib.hid (by rw [← hCC.out]; exact cloP_twice HL.out HLx.out)
          have HX2 := Lib.hid (HIX.out.grown Hbr.out)
          have hXle := HX2.out.le
          have hXmx := HX2.out.max
          rw [List.length_map] at hXle
          have Hc1 := Lib.hid (nclose_is x ⟨ea, ec, ga, gc⟩ XX xa xc Vb (Hx.out Vb Hbwb.out) HL.out HX2.out HLx.out (by have := Hq.out.1; omega))
          rw [hCC.out] at Hc1
          dsimp only at Hc1
          clear hA hll
          go_wp2_with (fail)
          refine Hc1.out.mono ?_
          rintro e w5 ⟨ca, cc, rfl, hci, hb5⟩
          have HA5 := Lib.hid (HArb.out.below hb5 HArb.out.lt)
          have HB5 := Lib.hid (Hbwb.out.trans (hb5.mono Hbwb.out.size))
          have HXj := Lib.hid (HX2.out.grown hb5)
          have HYj := Lib.hid (HIb.out.grown hb5)
          have HCi := Lib.hid hci
          have Hc2 := Lib.hid (nclose_is x ⟨ea, ec, ga, gc⟩ YY oab ocb w5 (Hx.out w5 HB5.out) HL.out HYj.out HLy.out (by have := Hq.out.1; omega))
          rw [hDD.out] at Hc2
          dsimp only at Hc2
          clear hb5 hci x0 x1 x2 x3 xl
          have x0 := HA5.out.cell 0
          have x1 := HA5.out.cell 1
          have x2 := HA5.out.cell 2
          have x3 := HA5.out.cell 3
          have xl := HA5.out.lt
          simp only [List.getElem?_cons_zero, List.getElem?_cons_succ] at x0 x1 x2 x3
          go_wp2_with (fail)
          refine Hc2.out.mono ?_
          rintro e w6 ⟨da, dc, rfl, hdi, hb6⟩
          have HA6 := Lib.hid (HA5.out.below hb6 HA5.out.lt)
          have HB6 := Lib.hid (HB5.out.trans (hb6.mono HB5.out.size))
          have HXk := Lib.hid (HXj.out.grown hb6)
          have HCj := Lib.hid (HCi.out.grown hb6)
          have HDi := Lib.hid hdi
          have Hc3 := Lib.hid (nclose_is x ⟨ea, ec, ga, gc⟩ CC ca cc w6 (Hx.out w6 HB6.out) HL.out HCj.out HLc.out (by have := Hq.out.1; omega))
          rw [HCC.out] at Hc3
          dsimp only at Hc3
          clear hb6 hdi x0 x1 x2 x3 xl
          have x0 := HA6.out.cell 0
          have x1 := HA6.out.cell 1
          have x2 := HA6.out.cell 2
          have x3 := HA6.out.cell 3
          have xl := HA6.out.lt
          simp only [List.getElem?_cons_zero, List.getElem?_cons_succ] at x0 x1 x2 x3
          go_wp2_with (fail)
          refine Hc3.out.mono ?_
          rintro e w7 ⟨qa, qc, rfl, hqi, hb7⟩
          have HB7 := Lib.hid (HB6.out.trans (hb7.mono HB6.out.size))
          have HXl := Lib.hid (HXk.out.grown hb7)
          have HCk := Lib.hid (HCj.out.grown hb7)
          have HDj := Lib.hid (HDi.out.grown hb7)
          have Hs1 := Lib.hid (sameN_any qa ca qc cc CC w7 hqi HCk.out)
          clear hb7 hqi x0 x1 x2 x3 xl
          go_wp2_with (fail)
          refine Hs1.out.mono ?_
          rintro e Vz ⟨rfl, hb8⟩
          have HBz := Lib.hid (HB7.out.trans (hb8.mono HB7.out.size))
          have HXz := Lib.hid (HXl.out.grown hb8)
          have HCz := Lib.hid (HCk.out.grown hb8)
          have HDz := Lib.hid (HDj.out.grown hb8)
          obtain ⟨X1, hX1⟩ : ∃ n, Hid (XX.length = n) := ⟨_, Lib.hid rfl⟩
          obtain ⟨C1, hC1⟩ : ∃ n, Hid (CC.length = n) := ⟨_, Lib.hid rfl⟩
          rw [hX1.out] at hXle
          rw [hX1.out, hC1.out]
          clear hb8 Hc1 Hc2 Hc3 Hs1
          go_wp2_with (fail)
          go_loopw [17, 91] (fun _ iv wr => ∃ k : Nat, k ≤ X1 ∧ iv = .int .i64 (k : Int) ∧ Below Vz.heap.size Vz wr) (fun _ iv _ => X1 - (intOf iv).toNat)
          case atStart => exact ⟨0, Nat.zero_le _, rfl, Below.refl _ _⟩
          case round =>
            obtain ⟨kc, hk, rfl, hbr⟩ := hrel
            by_cases hlt : kc < X1
            · have hkI : (kc : Int) < (X1 : Int) := by omega
              have hkI0 : (0 : Int) ≤ (kc : Int) := by omega
              have hkl : kc < XX.length := by rw [hX1.out]; exact hlt
              have hki : kc < (XX.map (fun v : Nat => (v : Int))).length := by rw [List.length_map]; exact hkl
              obtain ⟨b, off, rfl⟩ := (HXz.out.grown hbr).at_ kc hki
              have c0 := (HXz.out.grown hbr).cell b off rfl kc hki
              rw [List.getElem_map] at c0
              have hbl := World.block_lt_of_cell? _ _ c0
              obtain ⟨v, hv⟩ : ∃ v, Hid (XX[kc] = v) := ⟨_, Lib.hid rfl⟩
              have hvm : v ∈ XX := by rw [← hv.out]; exact List.getElem_mem hkl
              rw [hv.out] at c0
              have HIn := Lib.hid (inI_any CC ca cc v _ (HCz.out.grown hbr))
              rw [decide_eq_true (HXC.out v hvm), hC1.out] at HIn
              have Hbr := Lib.hid hbr
              clear hki hbr hvm
              go_wp2_with (fail)
              refine HIn.out.mono ?_
              rintro e w9 ⟨rfl, rfl⟩
              go_wp2_with (fail)
              exact ⟨⟨kc + 1, by omega, by simp, Hbr.out⟩, by simp [intOf]; omega⟩
            · obtain rfl : kc = X1 := by omega
              have hkI : ¬ (kc : Int) < (kc : Int) := by omega
              obtain ⟨Vc, rfl⟩ : ∃ V, V = wr := ⟨wr, rfl⟩
              have HBc := Lib.hid (HBz.out.trans (hbr.mono HBz.out.size))
              have HCc := Lib.hid (HCz.out.grown hbr)
              have HDc := Lib.hid (HDz.out.grown hbr)
              have hccle := HCc.out.le
              have hccmx := HCc.out.max
              rw [List.length_map, hC1.out] at hccle
              clear hbr
              go_wp2_with (fail)
              go_loopw [19, 102] (fun _ iv wr => ∃ k : Nat, k ≤ C1 ∧ iv = .int .i64 (k : Int) ∧ Below Vc.heap.size Vc wr) (fun _ iv _ => C1 - (intOf iv).toNat)
              case atStart => exact ⟨0, Nat.zero_le _, rfl, Below.refl _ _⟩
              case round =>
                obtain ⟨kd, hk, rfl, hbr⟩ := hrel
                by_cases hlt : kd < C1
                · have hkI : (kd : Int) < (C1 : Int) := by omega
                  have hkI0 : (0 : Int) ≤ (kd : Int) := by omega
                  have hkl : kd < CC.length := by rw [hC1.out]; exact hlt
                  have hki : kd < (CC.map (fun v : Nat => (v : Int))).length := by rw [List.length_map]; exact hkl
                  obtain ⟨b, off, rfl⟩ := (HCc.out.grown hbr).at_ kd hki
                  have c0 := (HCc.out.grown hbr).cell b off rfl kd hki
                  rw [List.getElem_map] at c0
                  have hbl := World.block_lt_of_cell? _ _ c0
                  obtain ⟨v, hv⟩ : ∃ v, Hid (CC[kd] = v) := ⟨_, Lib.hid rfl⟩
                  have hvm : v ∈ CC := by rw [← hv.out]; exact List.getElem_mem hkl
                  rw [hv.out] at c0
                  have HIn := Lib.hid (inI_any DD da dc v _ (HDc.out.grown hbr))
                  rw [decide_eq_true (HCD.out v hvm)] at HIn
                  have Hbr := Lib.hid hbr
                  clear hki hbr hvm
                  go_wp2_with (fail)
                  refine HIn.out.mono ?_
                  rintro e w9 ⟨rfl, rfl⟩
                  go_wp2_with (fail)
                  exact ⟨⟨kd + 1, by omega, by simp, Hbr.out⟩, by simp [intOf]; omega⟩
                · obtain rfl : kd = C1 := by omega
                  have hkI : ¬ (kd : Int) < (kd : Int) := by omega
                  obtain ⟨Vd, rfl⟩ : ∃ V, V = wr := ⟨wr, rfl⟩
                  have HBd := Lib.hid (HBc.out.trans (hbr.mono HBc.out.size))
                  go_wp2_with (fail)
                  exact bodyPost_ret (v := .bool true) (by simp [results, Try.results7, go_sem]; try rfl) rfl ⟨rfl, HBd.out⟩
end Go.Proofs.Ytpbceejjkdmclaa

/- The row NfaCloses: for every automaton and any two lists of numbers: a closed set is closed, has what it was made of, and is within that of a greater set: the law answers true and changes nothing that was there; no premise beyond the row's own. -/
namespace Go.Proofs.Ytpbceejjkdmclaa
open Go.ChangeShapes Go.WideShapes Go.ChangeAt Go.RowKit

set_option maxRecDepth 100000 in
theorem open_ints3 {H : Type} {enc : TypeId × Value → H} {W : World} {v : Value} {d : DataW H} {ps : List MemPlace} (hok : Value.okWide Try.prog W .any 0 22 v) (h : DataW.Trod enc Try.prog W 0 (fun _ => true) true 22 v d ps) :
    ∃ (a : Option Addr) (cap : Nat) (l : List Int), v = .slice a l.length cap ∧ Ints W a cap l := by
  obtain ⟨a0, len0, cap0, rfl⟩ := okWide_slice Try.underlying22 hok
  obtain ⟨fuel, hf⟩ := h
  obtain ⟨a, cap, l, e, hI⟩ := open_intl fuel _ _ hf
  simp only [Value.cells, List.cons.injEq, and_true] at e
  exact ⟨a, cap, l, e, hI⟩

set_option maxRecDepth 100000 in
theorem nfaCloses_lifted (os : Os) (started : os.Started) (H : Type) (enc : TypeId × Value → H) :
    ReturnsInHanded {} Try.checked os 7 .any (Rows.nfaClosesSpec.pre6 enc Try.prog Try.f7 Rows.nfaClosesRow.domain false) (Rows.nfaClosesSpec.post enc Try.prog Try.f7 false true false false) := by
  refine returnsInHanded_of_change (C := Try.checked) Try.own started (by kernel_rfl) Try.func7
    (ChangeSpec.witness6 (enc := enc) (C := Try.checked) false ⟨#[], #[.agg #[.int .i64 0, .int .i64 0, .slice none 0 0, .slice none 0 0], .slice none 0 0, .slice none 0 0], []⟩ 8 (by kernel_rfl) (by kernel_rfl) (by kernel_rfl) (by kernel_rfl)) ?_
  intro W base args ds gs before hval0 hW _ _
  have hval : ∀ (j : Nat) t v, Try.f7.params[j]? = some t → args[j]? = some v → Value.okWide Try.prog W .any base t v := hval0
  have hW' := hW
  obtain ⟨p, q, hA0, hV, rfl, hfz, hnd⟩ := hW
  have hA : DataW.TrodAll enc Try.prog W 0 (fun _ => true) true Try.f7.params.toList args.toList ds p := hA0
  rw [Try.params7] at hA hval
  obtain ⟨v0, v1, v2, d0, d1, d2, p0, p1, p2, rfl, rfl, rfl, h0, h1, h2⟩ := trodAll_three hA
  obtain ⟨x, l, rfl, hX⟩ := open_nfa (hval 0 25 v0 rfl rfl) h0
  obtain ⟨a, cap, sa, rfl, hI1⟩ := open_ints3 (hval 1 22 v1 rfl rfl) h1
  obtain ⟨a2, cap2, sb, rfl, hI2⟩ := open_ints3 (hval 2 22 v2 rfl rfl) h2
  refine (nfaCloses_any x l sa sb a a2 cap cap2 W hX hI1 hI2).mono fun e W' ⟨he, hw⟩ => ?_
  subst he
  exact ⟨_, rfl, law_post hW' rfl rfl (by kernel_rfl) (by rw [Try.params7]; intro t ht; simp at ht; rcases ht with rfl | rfl; exact ⟨by kernel_rfl, of_decide_eq_true (by kernel_rfl)⟩; exact ⟨by kernel_rfl, of_decide_eq_true (by kernel_rfl)⟩) hw⟩

theorem nfaCloses_holds : Rows.NfaClosesSaid :=
  OpenClaim.holds_of_wide 7 Try.f7 rfl rfl rfl rfl rfl rfl rfl ⟨rfl, rfl, rfl, rfl, rfl⟩ rfl rfl rfl rfl rfl (by kernel_rfl) Try.func7 (by kernel_rfl)
    (of_decide_eq_true (by kernel_rfl)) (by unfold Func.isWrapper; first | (rw [if_pos (by decide +kernel)]; kernel_rfl) | (rw [if_neg (by decide +kernel)]; exact ⟨rfl, rfl⟩))
    (fun os started H enc _ => nfaCloses_lifted os started H enc)
end Go.Proofs.Ytpbceejjkdmclaa
