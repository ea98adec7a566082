/- Texts joined: Bl Bm Bs Bt Ij Id Ie If Bu Ig Ik Il Bn Bo Bp Bq Br Im In. -/
import Derived.Test.YthogiakfbgehnaaREAc
import Derived.Lib.AppendZeros
import Derived.Test.YthogiakfbgehnaaREAa
import Derived.Deep.LoopGhost
import Derived.Deep.RegionHeld3
import Derived.DeepKeys4
set_option linter.unusedVariables false
set_option linter.unusedSimpArgs false
namespace Go.Proofs.Ythogiakfbgehnaa
open Go.RowKit Go.Shelf

attribute [local go_sem] Oper.semAt_some

set_option maxRecDepth 100000 in
set_option maxHeartbeats 8000000 in
theorem refFlaws_any (rs : List RlD) (a : Option Addr) (cap : Nat) (ts : List ByteArray) (ta : Option Addr) (tc : Nat) (w : World) (hl : Rls w a cap rs) (ht : Nms w ta tc ts) (hfew : rs.length ≤ 1000) (hfew2 : ts.length ≤ 1000) (hfew3 : (namesR (grP rs)).length ≤ 100000) :
    Calls Try.prog 138 #[.agg #[.slice a rs.length cap], .slice ta ts.length tc] w fun r w' => ∃ a' c' o, LedR rs o ∧ r = .returned (.slice a' (flawsP (grP rs) ts (fertN (grP rs) ts rs.length) o).length c') ∧ OwnF w' w.heap.size a' c' (flawsP (grP rs) ts (fertN (grP rs) ts rs.length) o) ∧ Below w.heap.size w w' := by
  have hlm : rs.length ≤ cap ∧ cap ≤ 9223372036854775807 := ⟨hl.le, hl.max⟩
  have htm : ts.length ≤ tc ∧ tc ≤ 9223372036854775807 := ⟨by have := ht.le; rwa [List.length_map] at this, ht.max⟩
  have hA0 := Blk.new w 124 #[.slice a rs.length cap]
  have hb0 : Below w.heap.size w (w.alloc (.cells #[.slice a rs.length cap] 124)) := (Below.refl _ w).alloc (Nat.le_refl _) _
  have hs0 : w.heap.size < (w.alloc (.cells #[.slice a rs.length cap] 124)).heap.size := by simp [go_sem]
  have Hn := Lib.hid (names_any rs a cap _ (hl.grown hb0) (by omega))
  have Hfe := Lib.hid (fun W (hb : Below w.heap.size w W) => refFertile_any rs a cap ts ta tc W (hl.grown hb) (ht.grown hb) hfew hfew2)
  have Hle := Lib.hid (fun W (hb : Below w.heap.size w W) => refLed_any rs a cap W (hl.grown hb) hfew (by omega))
  obtain ⟨F, hF⟩ : ∃ F, Hid (fertN (grP rs) ts rs.length = F) := ⟨_, Lib.hid rfl⟩
  rw [hF.out] at Hfe ⊢
  have Hfe' : Hid (∀ W, Below w.heap.size w W → Calls Try.prog 161 #[.agg #[.slice a rs.length cap], .slice ta ts.length tc] W fun r w' => ∃ a' c' n, r = .returned (.slice a' n c') ∧ OwnS w' W.heap.size n a' c' F ∧ Below W.heap.size W w') := Hfe
  have Hle' : Hid (∀ W, Below w.heap.size w W → Calls Try.prog 162 #[.agg #[.slice a rs.length cap]] W fun r w' => ∃ a' c' n o, r = .returned (.slice a' n c') ∧ OwnS w' W.heap.size n a' c' o ∧ LedR rs o ∧ Below W.heap.size W w') := Hle
  clear Hfe Hle
  obtain ⟨NM, hNM⟩ : ∃ q, Hid (rs.map RlD.n = q) := ⟨_, Lib.hid rfl⟩
  have hNf : Hid ((grP rs).map Prod.fst = NM) := Lib.hid (by rw [← hNM.out]; simp [grP, RlD.p])
  have hNl : Hid (NM.length = rs.length) := Lib.hid (by rw [← hNM.out, List.length_map])
  unfold flawsP
  rw [hNf.out, hNl.out]
  rw [hNM.out] at Hn
  obtain ⟨U, hU⟩ : ∃ U, Hid (NM ++ namesR (grP rs) = U) := ⟨_, Lib.hid rfl⟩
  have hU1 : Hid (∀ n ∈ NM, n ∈ U) := Lib.hid (fun n hn => by rw [← hU.out]; exact List.mem_append_left _ hn)
  have hU2 : Hid (∀ r ∈ grP rs, ∀ a ∈ r.2, ∀ n ∈ a, n ∈ U) := Lib.hid (fun r hr a ha n hn => by rw [← hU.out]; exact List.mem_append_right _ (List.mem_flatMap.2 ⟨r, hr, List.mem_flatten.2 ⟨a, ha, hn⟩⟩))
  have hUl : Hid (4 * U.length ≤ 404000) := Lib.hid (by rw [← hU.out, List.length_append, hNl.out]; omega)
  obtain ⟨D, hD⟩ : ∃ D : Nat → List Fl, Hid (dblN ts NM = D) := ⟨_, Lib.hid rfl⟩
  have hDok : Hid (∀ k, OkF U (D k)) := Lib.hid (fun k => by rw [← hD.out]; exact okF_dbl hU1.out k)
  have hD0 : Hid (D 0 = []) := Lib.hid (by rw [← hD.out]; rfl)
  have hDs : Hid (∀ k n, NM[k]? = some n → D (k + 1) = if (mem n ts || mem n (NM.take k)) = true then layP (D k) (1, n) else D k) := Lib.hid (fun k n h => by rw [← hD.out]; show (match NM[k]? with | some n => _ | none => _) = _; rw [h])
  rw [hD.out]
  clear hfew3
  obtain ⟨L, HL⟩ : ∃ L, Hid (rs.length = L) := ⟨_, Lib.hid rfl⟩
  obtain ⟨T, HT⟩ : ∃ L, Hid (ts.length = L) := ⟨_, Lib.hid rfl⟩
  rw [HL.out] at hlm hfew hA0 hb0 hs0 Hn Hfe' Hle' hNl ⊢
  rw [HT.out] at hfew2 htm Hfe' ⊢
  have x0 := hA0.cell 0
  have xl := hA0.lt
  simp only [List.getElem?_cons_zero] at x0
  go_enter Try.func138, Try.ntmps138
  go_wp2_with (fail)
  refine Hn.out.mono ?_
  clear Hn
  rintro r w1 ⟨aN, cN, rfl, hoN, hb1⟩
  generalize hW : World.alloc w _ = W at x0 xl hA0 hb0 hs0 hb1 hoN
  have HW := Lib.hid hW
  clear hW hA0
  have hN := Lib.hid (show Nms w1 aN cN NM from own_vs hoN)
  have hNm : L ≤ cN ∧ cN ≤ 9223372036854775807 := ⟨by have := hN.out.le; rwa [List.length_map, hNl.out] at this, hN.out.max⟩
  have x1 := cell_up hb1 x0
  have xl1 := Nat.lt_of_lt_of_le xl hb1.size
  have hw1 := hb0.trans (hb1.mono (Nat.le_of_lt hs0))
  clear hoN x0 xl
  go_wp2_with (fail)
  go_loopw [5, 25] (fun s iv wr => ∃ (k n : Nat) (a' : Option Addr) (c' : Nat), k ≤ L ∧ iv = .int .i64 (k : Int) ∧ s = .slice a' n c' ∧ Hid ((D k).length = n) ∧ Hid (OwnF wr w1.heap.size a' c' (D k)) ∧ Below w1.heap.size w1 wr) (fun _ iv _ => L - (intOf iv).toNat)
  case atStart => exact ⟨0, 0, none, 0, Nat.zero_le _, rfl, rfl, Lib.hid (by rw [hD0.out]; rfl), Lib.hid (by rw [hD0.out]; exact World.ownsRow_nil _ _ _ 2), Below.refl _ w1⟩
  case round =>
    obtain ⟨k, n, a', c', hk, rfl, rfl, Hn, HO, hbr⟩ := hrel
    by_cases hlt : k < L
    · have hkI : (k : Int) < (L : Int) := by omega
      have hkI0 : (0 : Int) ≤ (k : Int) := by omega
      have hkc : (k : Int) ≤ (cN : Int) := by omega
      have hkN : k < NM.length := by rw [hNl.out]; exact hlt
      obtain ⟨bN, oN, rfl⟩ := hN.out.at_ k (by rw [List.length_map]; exact hkN)
      have hNr := hN.out.grown hbr
      have c0 := hNr.cell bN oN rfl k (by rw [List.length_map]; exact hkN)
      rw [List.getElem_map] at c0
      obtain ⟨e, he⟩ : ∃ v, Hid (NM[k] = v) := ⟨_, Lib.hid rfl⟩
      rw [he.out] at c0
      have hbl := World.block_lt_of_cell? wr _ c0
      have hst := hDs.out k e (by rw [List.getElem?_eq_getElem hkN, he.out])
      have hbw := hw1.trans (hbr.mono hw1.size)
      have Hc1 := Lib.hid (refHas_any ts ta tc e wr (ht.grown hbw))
      have Hc2 := Lib.hid (refHas_any (NM.take k) _ cN e wr (Nms.take hNr k))
      have hlen : Hid (n ≤ 404000) := Lib.hid (by have := Nat.le_trans (hDok.out k).len hUl.out; rwa [Hn.out] at this)
      have Hl := Lib.hid (lay_any (D k) a' c' w1.heap.size 1 e wr HO.out (by rw [Hn.out]; have := hlen.out; omega) hbr.size)
      rw [HT.out] at Hc1
      rw [show (NM.take k).length = k by rw [List.length_take]; omega] at Hc2
      rw [Hn.out] at Hl
      obtain ⟨S1, hS1⟩ : ∃ S, Hid (mem e ts = S) := ⟨_, Lib.hid rfl⟩
      obtain ⟨S2, hS2⟩ : ∃ S, Hid (mem e (NM.take k) = S) := ⟨_, Lib.hid rfl⟩
      rw [hS1.out] at Hc1 hst
      rw [hS2.out] at Hc2 hst
      have Hst := Lib.hid hst
      clear hst hNr
      go_wp2_with (fail)
      refine Hc1.out.mono ?_
      rintro r w3 ⟨rfl, hw3⟩
      subst w3
      cases S1
      · go_wp2_with (fail)
        refine Hc2.out.mono ?_
        rintro r w3 ⟨rfl, hw3⟩
        subst w3
        cases S2
        · go_wp2_with (fail)
          exact ⟨⟨k + 1, n, a', c', by omega, by go_num, rfl, Lib.hid (by rw [Hst.out]; exact Hn.out), Lib.hid (by rw [Hst.out]; exact HO.out), hbr⟩, by simp [intOf]; omega⟩
        · go_wp2_with (fail)
          refine Hl.out.mono ?_
          rintro r w3 ⟨a2, c2, rfl, hO2, hg2⟩
          have hb3 := hbr.trans (below_at hg2 (fun g e0 => (own_typ HO.out g (by rw [Hn.out]; exact e0)).1) hbr.size)
          have HO2 := Lib.hid hO2
          clear hO2 hg2
          go_wp2_with (fail)
          exact ⟨⟨k + 1, _, a2, c2, by omega, by go_num, rfl, Lib.hid (by rw [Hst.out]; rfl), Lib.hid (by rw [Hst.out]; exact HO2.out), hb3⟩, by simp [intOf]; omega⟩
      · go_wp2_with (fail)
        refine Hl.out.mono ?_
        rintro r w3 ⟨a2, c2, rfl, hO2, hg2⟩
        have hb3 := hbr.trans (below_at hg2 (fun g e0 => (own_typ HO.out g (by rw [Hn.out]; exact e0)).1) hbr.size)
        have HO2 := Lib.hid hO2
        clear hO2 hg2
        go_wp2_with (fail)
        exact ⟨⟨k + 1, _, a2, c2, by omega, by go_num, rfl, Lib.hid (by rw [Hst.out]; rfl), Lib.hid (by rw [Hst.out]; exact HO2.out), hb3⟩, by simp [intOf]; omega⟩
    · obtain rfl : k = L := by omega
      have hkI : ¬ (k : Int) < (k : Int) := by omega
      have z0 := cell_up hbr x1
      have zl := Nat.lt_of_lt_of_le xl1 hbr.size
      go_wp2_with (fail)
      obtain ⟨D0, hD0'⟩ : ∃ q, Hid (D k = q) := ⟨_, Lib.hid rfl⟩
      have hDok0 : Hid (OkF U D0) := Lib.hid (by rw [← hD0'.out]; exact hDok.out k)
      rw [hD0'.out] at Hn HO
      clear hDs hDok hkI
      go_loopw [5, 47] (fun s iv wr => ∃ (i n : Nat) (a' : Option Addr) (c' : Nat), i ≤ k ∧ iv = .int .i64 (i : Int) ∧ s = .slice a' n c' ∧ Hid ((unkP ts NM ((grP rs).take i) D0).length = n) ∧ Hid (OwnF wr w1.heap.size a' c' (unkP ts NM ((grP rs).take i) D0)) ∧ Below w1.heap.size w1 wr) (fun _ iv _ => k - (intOf iv).toNat)
      case atStart => exact ⟨0, n, a', c', Nat.zero_le _, rfl, rfl, Lib.hid (by exact Hn.out), Lib.hid (by exact HO.out), hbr⟩
      case round =>
        clear Hn HO hbr z0 zl
        obtain ⟨i, n, a', c', hi, rfl, rfl, Hn, HO, hbr⟩ := hrel
        obtain ⟨O1, hO1⟩ : ∃ q, Hid (unkP ts NM ((grP rs).take i) D0 = q) := ⟨_, Lib.hid rfl⟩
        rw [hO1.out] at Hn HO
        have hok1 : Hid (OkF U O1) := Lib.hid (by rw [← hO1.out]; exact okF_unkP _ _ hDok0.out (fun r hr => hU2.out r (List.mem_of_mem_take hr)))
        by_cases hlt2 : i < k
        · have hiI : (i : Int) < (k : Int) := by omega
          have hiI0 : (0 : Int) ≤ (i : Int) := by omega
          have hil : i < rs.length := by rw [HL.out]; exact hlt2
          have hbw := hw1.trans (hbr.mono hw1.size)
          obtain ⟨b, off, rfl⟩ := hl.at_ i hil
          obtain ⟨c0, c1⟩ := (hl.grown hbw).cell b off rfl i hil
          have hm : rs[i] ∈ rs := List.getElem_mem hil
          have htk := Lib.hid (grP_take rs i hil)
          obtain ⟨e, he⟩ : ∃ v, Hid (rs[i] = v) := ⟨_, Lib.hid rfl⟩
          rw [he.out] at c0 c1 hm htk
          have hbl := World.block_lt_of_cell? wr _ c0
          have hal := Lib.hid (hl.alts e hm)
          have hmG : Hid (∀ a ∈ e.ds.map AltD.l, ∀ y ∈ a, y ∈ U) := Lib.hid (hU2.out e.p (List.mem_map_of_mem hm))
          have hem : e.ds.length ≤ e.c ∧ e.c ≤ 9223372036854775807 := ⟨by have := hal.out.row.le; rw [List.length_map] at this; exact this, hal.out.row.max⟩
          have hB0 := Blk.new wr 177 #[.string e.n, .slice e.a e.ds.length e.c]
          have hb2 : Below w1.heap.size w1 (wr.alloc (.cells #[.string e.n, .slice e.a e.ds.length e.c] 177)) := hbr.alloc hbr.size _
          have hst : Hid (unkP ts NM ((grP rs).take (i + 1)) D0 = unkAs ts NM (e.ds.map AltD.l) O1) := Lib.hid (by rw [show (grP rs).take (i + 1) = (grP rs).take i ++ [e.p] from by have := htk.out; simpa [grP, List.map_take] using this, unkP_snoc, hO1.out]; rfl)
          have ho2 : OwnF (wr.alloc (.cells #[.string e.n, .slice e.a e.ds.length e.c] 177)) w1.heap.size a' c' O1 := World.ownsRow.alloc HO.out _
          obtain ⟨M, HM⟩ : ∃ M, Hid (e.ds.length = M) := ⟨_, Lib.hid rfl⟩
          rw [HM.out] at hB0 c1 hem hb2 ho2
          have y1 := hB0.cell 1
          have yl := hB0.lt
          simp only [List.getElem?_cons_zero, List.getElem?_cons_succ] at y1
          have HO3 := Lib.hid ho2
          clear ho2 hm HO hB0
          obtain ⟨nm, hnm⟩ : ∃ q, Hid (e.n = q) := ⟨_, Lib.hid rfl⟩
          obtain ⟨ea, hea⟩ : ∃ q, Hid (e.a = q) := ⟨_, Lib.hid rfl⟩
          obtain ⟨ec, hec⟩ : ∃ q, Hid (e.c = q) := ⟨_, Lib.hid rfl⟩
          rw [hnm.out] at c0 hb2 y1 yl HO3
          rw [hea.out] at c1 hb2 y1 yl HO3
          rw [hec.out] at c1 hb2 y1 yl HO3 hem
          go_wp2_with (fail)
          generalize hV : World.alloc wr _ = V at hb2 HO3 ⊢
          have HV := Lib.hid hV
          clear hV y1 yl
          go_loopw [5, 54] (fun s iv wv => ∃ (j n3 : Nat) (a3 : Option Addr) (c3 : Nat), j ≤ M ∧ iv = .int .i64 (j : Int) ∧ s = .slice a3 n3 c3 ∧ Hid ((unkAs ts NM ((e.ds.map AltD.l).take j) O1).length = n3) ∧ Hid (OwnF wv w1.heap.size a3 c3 (unkAs ts NM ((e.ds.map AltD.l).take j) O1)) ∧ Below w1.heap.size w1 wv) (fun _ iv _ => M - (intOf iv).toNat)
          case atStart => exact ⟨0, n, a', c', Nat.zero_le _, rfl, rfl, Lib.hid (by exact Hn.out), Lib.hid (by exact HO3.out), hb2⟩
          case round =>
            clear HO3 hb2 c0 c1 hbl hbw hbr Hn
            obtain ⟨j, n3, a3, c3, hj, rfl, rfl, Hn3, HO5, hbr⟩ := hrel
            obtain ⟨O3, hO3⟩ : ∃ q, Hid (unkAs ts NM ((e.ds.map AltD.l).take j) O1 = q) := ⟨_, Lib.hid rfl⟩
            rw [hO3.out] at HO5 Hn3
            by_cases hlt3 : j < M
            · have hjI : (j : Int) < (M : Int) := by omega
              have hjI0 : (0 : Int) ≤ (j : Int) := by omega
              have hjl : j < e.ds.length := by rw [HM.out]; exact hlt3
              have hbwv := hw1.trans (hbr.mono hw1.size)
              obtain ⟨b6, o6, hb6⟩ := hal.out.row.at_ j (by rw [List.length_map]; exact hjl)
              have hea2 : ea = some ⟨b6, o6, none⟩ := hea.out.symm.trans hb6
              subst hea2
              have d0 := (hal.out.row.grown hbwv).cell b6 o6 hb6 j (by rw [List.length_map]; exact hjl)
              rw [List.getElem_map] at d0
              have hmd : e.ds[j] ∈ e.ds := List.getElem_mem hjl
              have htk2 := Lib.hid (alP_take e.ds j hjl)
              obtain ⟨d, hd⟩ : ∃ v, Hid (e.ds[j] = v) := ⟨_, Lib.hid rfl⟩
              rw [hd.out] at d0 hmd htk2
              rw [altv] at d0
              have hNd := Lib.hid (hal.out.nms d hmd)
              have hdm : d.l.length ≤ d.c ∧ d.c ≤ 9223372036854775807 := ⟨by have := hNd.out.le; rwa [List.length_map] at this, hNd.out.max⟩
              have hmD : Hid (∀ y ∈ d.l, y ∈ U) := Lib.hid (hmG.out d.l (List.mem_map_of_mem hmd))
              have hok3 : Hid (OkF U O3) := Lib.hid (by rw [← hO3.out]; exact okF_unkAs _ _ hok1.out (fun a ha => hmG.out a (List.mem_of_mem_take ha)))
              have hst3 := Lib.hid (show unkAs ts NM ((e.ds.map AltD.l).take (j + 1)) O1 = unkA ts NM d.l O3 by rw [← List.map_take, htk2.out, unkAs_snoc, List.map_take, hO3.out])
              obtain ⟨E, hE⟩ : ∃ q, Hid (d.l.length = q) := ⟨_, Lib.hid rfl⟩
              obtain ⟨da, hda⟩ : ∃ q, Hid (d.a = q) := ⟨_, Lib.hid rfl⟩
              obtain ⟨dc, hdc⟩ : ∃ q, Hid (d.c = q) := ⟨_, Lib.hid rfl⟩
              rw [hE.out] at d0 hdm
              rw [hda.out] at d0
              rw [hdc.out] at d0 hdm
              have hbl3 := World.block_lt_of_cell? wr _ d0
              clear hmd
              go_wp2_with (fail)
              go_loopw [5, 60] (fun s iv wv => ∃ (m n4 : Nat) (a4 : Option Addr) (c4 : Nat), m ≤ E ∧ iv = .int .i64 (m : Int) ∧ s = .slice a4 n4 c4 ∧ Hid ((unkA ts NM (d.l.take m) O3).length = n4) ∧ Hid (OwnF wv w1.heap.size a4 c4 (unkA ts NM (d.l.take m) O3)) ∧ Below w1.heap.size w1 wv) (fun _ iv _ => E - (intOf iv).toNat)
              case atStart => exact ⟨0, n3, a3, c3, Nat.zero_le _, rfl, rfl, Lib.hid (by exact Hn3.out), Lib.hid (by exact HO5.out), hbr⟩
              case round =>
                clear HO5 d0 hbl3 hbwv hbr Hn3
                obtain ⟨m, n4, a4, c4, hmD2, rfl, rfl, Hn, HO, hbr⟩ := hrel
                obtain ⟨O4, hO4⟩ : ∃ q, Hid (unkA ts NM (d.l.take m) O3 = q) := ⟨_, Lib.hid rfl⟩
                rw [hO4.out] at HO Hn
                by_cases hlt4 : m < E
                · have hmI : (m : Int) < (E : Int) := by omega
                  have hmI0 : (0 : Int) ≤ (m : Int) := by omega
                  have hml : m < d.l.length := by rw [hE.out]; exact hlt4
                  have hbwv := hw1.trans (hbr.mono hw1.size)
                  have hok4 : Hid (n4 ≤ 404000) := Lib.hid (by
                    have h1 : OkF U O4 := by rw [← hO4.out]; exact okF_unkA _ _ hok3.out (fun y hy => hmD.out y (List.mem_of_mem_take hy))
                    have := Nat.le_trans h1.len hUl.out
                    rw [Hn.out] at this
                    exact this)
                  obtain ⟨b7, o7, hb7⟩ := hNd.out.at_ m (by rw [List.length_map]; exact hml)
                  have hda2 : da = some ⟨b7, o7, none⟩ := hda.out.symm.trans hb7
                  subst hda2
                  have d1 := (hNd.out.grown hbwv).cell b7 o7 hb7 m (by rw [List.length_map]; exact hml)
                  rw [List.getElem_map] at d1
                  have hst4 : Hid (unkA ts NM (d.l.take (m + 1)) O3 = unkS ts NM O4 d.l[m]) := Lib.hid (by rw [List.take_add_one, List.getElem?_eq_getElem hml]; show unkA ts NM (d.l.take m ++ [d.l[m]]) O3 = _; rw [unkA_snoc, hO4.out])
                  obtain ⟨y, hy⟩ : ∃ y, Hid (d.l[m] = y) := ⟨_, Lib.hid rfl⟩
                  rw [hy.out] at d1 hst4
                  have hbl5 := World.block_lt_of_cell? wr _ d1
                  have Hc1 := Lib.hid (refHas_any NM aN cN y wr (hN.out.grown hbr))
                  have Hc2 := Lib.hid (refHas_any ts ta tc y wr (ht.grown hbwv))
                  have Hl := Lib.hid (lay_any O4 a4 c4 w1.heap.size 2 y wr HO.out (by rw [Hn.out]; have := hok4.out; omega) hbr.size)
                  rw [hNl.out] at Hc1
                  rw [HT.out] at Hc2
                  rw [Hn.out] at Hl
                  obtain ⟨S1, hS1⟩ : ∃ S, Hid (mem y NM = S) := ⟨_, Lib.hid rfl⟩
                  obtain ⟨S2, hS2⟩ : ∃ S, Hid (mem y ts = S) := ⟨_, Lib.hid rfl⟩
                  have Hst : Hid (unkA ts NM (d.l.take (m + 1)) O3 = if (!S1 && !S2) = true then layP O4 (2, y) else O4) := Lib.hid (by rw [hst4.out]; unfold unkS; rw [hS1.out, hS2.out])
                  rw [hS1.out] at Hc1
                  rw [hS2.out] at Hc2
                  go_wp2_with (fail)
                  refine Hc1.out.mono ?_
                  rintro r w3 ⟨rfl, hw3⟩
                  subst w3
                  cases S1
                  · go_wp2_with (fail)
                    refine Hc2.out.mono ?_
                    rintro r w3 ⟨rfl, hw3⟩
                    subst w3
                    cases S2
                    · go_wp2_with (fail)
                      refine Hl.out.mono ?_
                      rintro r w3 ⟨a2, c2, rfl, hO2, hg2⟩
                      have hb3 := hbr.trans (below_at hg2 (fun g e0 => (own_typ HO.out g (by rw [Hn.out]; exact e0)).1) hbr.size)
                      have HO2 := Lib.hid hO2
                      clear hO2 hg2
                      go_wp2_with (fail)
                      exact ⟨⟨m + 1, _, a2, c2, by omega, by go_num, rfl, Lib.hid (by rw [Hst.out]; rfl), Lib.hid (by rw [Hst.out]; exact HO2.out), hb3⟩, by simp [intOf]; omega⟩
                    · go_wp2_with (fail)
                      exact ⟨⟨m + 1, n4, a4, c4, by omega, by go_num, rfl, Lib.hid (by rw [Hst.out]; exact Hn.out), Lib.hid (by rw [Hst.out]; exact HO.out), hbr⟩, by simp [intOf]; omega⟩
                  · go_wp2_with (fail)
                    exact ⟨⟨m + 1, n4, a4, c4, by omega, by go_num, rfl, Lib.hid (by rw [Hst.out]; exact Hn.out), Lib.hid (by rw [Hst.out]; exact HO.out), hbr⟩, by simp [intOf]; omega⟩
                · obtain rfl : m = E := by omega
                  have hmI : ¬ (m : Int) < (m : Int) := by omega
                  have hfin := Lib.hid (show unkAs ts NM ((e.ds.map AltD.l).take (j + 1)) O1 = O4 by rw [hst3.out, ← hO4.out, List.take_of_length_le (by rw [hE.out]; exact Nat.le_refl _)])
                  go_wp2_with (fail)
                  exact ⟨⟨j + 1, n4, a4, c4, by omega, by go_num, rfl, Lib.hid (by rw [hfin.out]; exact Hn.out), Lib.hid (by rw [hfin.out]; exact HO.out), hbr⟩, by simp [intOf]; omega⟩
            · obtain rfl : j = M := by omega
              have hjI : ¬ (j : Int) < (j : Int) := by omega
              have hfin := Lib.hid (show unkP ts NM ((grP rs).take (i + 1)) D0 = O3 by rw [hst.out, ← hO3.out, List.take_of_length_le (by rw [List.length_map, HM.out]; exact Nat.le_refl _)])
              go_wp2_with (fail)
              exact ⟨⟨i + 1, n3, a3, c3, by omega, by go_num, rfl, Lib.hid (by rw [hfin.out]; exact Hn3.out), Lib.hid (by rw [hfin.out]; exact HO5.out), hbr⟩, by simp [intOf]; omega⟩
        · obtain rfl : i = k := by omega
          have hiI : ¬ (i : Int) < (i : Int) := by omega
          have hfinU : Hid (unkP ts NM (grP rs) (D i) = O1) := Lib.hid (by rw [← hO1.out, hD0'.out, List.take_of_length_le (by simp [grP, HL.out])])
          have z0 := cell_up hbr x1
          have zl := Nat.lt_of_lt_of_le xl1 hbr.size
          have hbw := hw1.trans (hbr.mono hw1.size)
          have Hf := Lib.hid (Hfe'.out wr hbw)
          go_wp2_with (fail)
          refine Hf.out.mono ?_
          rintro r w3 ⟨aF, cF, nF, rfl, hoF, hb3⟩
          have HO2 : Hid (OwnF w3 w1.heap.size a' c' O1) := Lib.hid (World.ownsRow.kept HO.out (below_grownBy hb3 none) (by cases h : (Value.slice a' O1.length c').ownBlock <;> simp))
          have hbr2 := hbr.trans (hb3.mono hbr.size)
          obtain ⟨B3, hB3⟩ : ∃ q3, Hid (wr.heap.size = q3) := ⟨_, Lib.hid rfl⟩
          rw [hB3.out] at hoF
          have hlG3 : Hid (F.length = nF) := Lib.hid (OwnS.len hoF)
          have HG3 := Lib.hid hoF
          clear hoF hb3 HO
          go_wp2_with (fail)
          go_loopw [5, 85] (fun s iv wv => ∃ (q3 n : Nat) (a' : Option Addr) (c' : Nat), q3 ≤ i ∧ iv = .int .i64 (q3 : Int) ∧ s = .slice a' n c' ∧ Hid ((restP 3 F (NM.take q3) O1).length = n) ∧ Hid (OwnF wv w1.heap.size a' c' (restP 3 F (NM.take q3) O1)) ∧ Hid (OwnS wv B3 nF aF cF F) ∧ Below w1.heap.size w1 wv) (fun _ iv _ => i - (intOf iv).toNat)
          case atStart => exact ⟨0, n, a', c', Nat.zero_le _, rfl, rfl, Lib.hid (by exact Hn.out), Lib.hid (by exact HO2.out), Lib.hid HG3.out, hbr2⟩
          case round =>
            clear Hn HO2 hbr hbr2 HG3 z0 zl hbw
            obtain ⟨q3, n, a', c', hq, rfl, rfl, Hn, HO, HG, hbr⟩ := hrel
            obtain ⟨P3, hP3⟩ : ∃ v, Hid (restP 3 F (NM.take q3) O1 = v) := ⟨_, Lib.hid rfl⟩
            rw [hP3.out] at Hn HO
            have hok3 : Hid (OkF U P3) := Lib.hid (by rw [← hP3.out]; exact okF_rest (by decide) _ _ hok1.out (fun y hy => hU1.out y (List.mem_of_mem_take hy)))
            by_cases hltq : q3 < i
            · have hqI : (q3 : Int) < (i : Int) := by omega
              have hqI0 : (0 : Int) ≤ (q3 : Int) := by omega
              have hqN : q3 < NM.length := by rw [hNl.out]; exact hltq
              obtain ⟨bN, oN, rfl⟩ := hN.out.at_ q3 (by rw [List.length_map]; exact hqN)
              have c0 := (hN.out.grown hbr).cell bN oN rfl q3 (by rw [List.length_map]; exact hqN)
              rw [List.getElem_map] at c0
              have hst : restP 3 F (NM.take (q3 + 1)) O1 = restS 3 F P3 NM[q3] := by rw [List.take_add_one, List.getElem?_eq_getElem hqN]; show restP 3 F (NM.take q3 ++ [NM[q3]]) O1 = _; rw [restP_snoc, hP3.out]
              obtain ⟨e, he⟩ : ∃ v, Hid (NM[q3] = v) := ⟨_, Lib.hid rfl⟩
              rw [he.out] at c0 hst
              have hbl := World.block_lt_of_cell? wr _ c0
              have Hc1 := Lib.hid (refHas_any F aF cF e wr HG.out.nms)
              have hlen : Hid (n ≤ 404000) := Lib.hid (by have := Nat.le_trans hok3.out.len hUl.out; rwa [Hn.out] at this)
              have Hl := Lib.hid (lay_any P3 a' c' w1.heap.size 3 e wr HO.out (by rw [Hn.out]; have := hlen.out; omega) hbr.size)
              rw [hlG3.out] at Hc1
              rw [Hn.out] at Hl
              obtain ⟨S1, hS1⟩ : ∃ S, Hid (mem e F = S) := ⟨_, Lib.hid rfl⟩
              have Hst : Hid (restP 3 F (NM.take (q3 + 1)) O1 = if (!S1) = true then layP P3 (3, e) else P3) := Lib.hid (by rw [hst]; unfold restS; rw [hS1.out])
              rw [hS1.out] at Hc1
              clear hst
              go_wp2_with (fail)
              refine Hc1.out.mono ?_
              rintro r w3 ⟨rfl, hw3⟩
              subst w3
              cases S1
              · go_wp2_with (fail)
                refine Hl.out.mono ?_
                rintro r w3 ⟨a2, c2, rfl, hO2, hg2⟩
                have hb3 := hbr.trans (below_at hg2 (fun g e0 => (own_typ HO.out g (by rw [Hn.out]; exact e0)).1) hbr.size)
                have HG2 := Lib.hid (own_kept_ty HG.out hg2 (fun g e0 => by obtain ⟨-, cur, h2⟩ := own_typ HO.out g (by rw [Hn.out]; exact e0); exact ⟨_, _, _, h2, by decide⟩))
                have HO2 := Lib.hid hO2
                clear hO2 hg2
                go_wp2_with (fail)
                exact ⟨⟨q3 + 1, _, a2, c2, by omega, by go_num, rfl, Lib.hid (by rw [Hst.out]; rfl), Lib.hid (by rw [Hst.out]; exact HO2.out), HG2, hb3⟩, by simp [intOf]; omega⟩
              · go_wp2_with (fail)
                exact ⟨⟨q3 + 1, n, a', c', by omega, by go_num, rfl, Lib.hid (by rw [Hst.out]; exact Hn.out), Lib.hid (by rw [Hst.out]; exact HO.out), HG, hbr⟩, by simp [intOf]; omega⟩
            · obtain rfl : q3 = i := by omega
              have hqI : ¬ (q3 : Int) < (q3 : Int) := by omega
              have hfin3 : Hid (restP 3 F NM O1 = P3) := Lib.hid (by rw [← hP3.out, List.take_of_length_le (by rw [hNl.out]; exact Nat.le_refl _)])
              have z0 := cell_up hbr x1
              have zl := Nat.lt_of_lt_of_le xl1 hbr.size
              have hbw := hw1.trans (hbr.mono hw1.size)
              have Hg := Lib.hid (Hle'.out wr hbw)
              go_wp2_with (fail)
              refine Hg.out.mono ?_
              rintro r w3 ⟨aG, cG, nG, G4, rfl, hoG, hLed0, hb3⟩
              have hLed := Lib.hid hLed0
              clear hLed0
              have HO2 : Hid (OwnF w3 w1.heap.size a' c' P3) := Lib.hid (World.ownsRow.kept HO.out (below_grownBy hb3 none) (by cases h : (Value.slice a' P3.length c').ownBlock <;> simp))
              have hbr2 := hbr.trans (hb3.mono hbr.size)
              obtain ⟨B4, hB4⟩ : ∃ q4, Hid (wr.heap.size = q4) := ⟨_, Lib.hid rfl⟩
              rw [hB4.out] at hoG
              have hlG4 : Hid (G4.length = nG) := Lib.hid (OwnS.len hoG)
              have HG4 := Lib.hid hoG
              clear hoG hb3 HO
              go_wp2_with (fail)
              go_loopw [5, 101] (fun s iv wv => ∃ (q4 n : Nat) (a' : Option Addr) (c' : Nat), q4 ≤ q3 ∧ iv = .int .i64 (q4 : Int) ∧ s = .slice a' n c' ∧ Hid ((restP 4 G4 (NM.take q4) P3).length = n) ∧ Hid (OwnF wv w1.heap.size a' c' (restP 4 G4 (NM.take q4) P3)) ∧ Hid (OwnS wv B4 nG aG cG G4) ∧ Below w1.heap.size w1 wv) (fun _ iv _ => q3 - (intOf iv).toNat)
              case atStart => exact ⟨0, n, a', c', Nat.zero_le _, rfl, rfl, Lib.hid (by exact Hn.out), Lib.hid (by exact HO2.out), Lib.hid HG4.out, hbr2⟩
              case round =>
                clear Hn HO2 hbr hbr2 HG4 z0 zl hbw
                obtain ⟨q4, n, a', c', hq, rfl, rfl, Hn, HO, HG, hbr⟩ := hrel
                obtain ⟨P4, hP4⟩ : ∃ v, Hid (restP 4 G4 (NM.take q4) P3 = v) := ⟨_, Lib.hid rfl⟩
                rw [hP4.out] at Hn HO
                have hok4 : Hid (OkF U P4) := Lib.hid (by rw [← hP4.out]; exact okF_rest (by decide) _ _ hok3.out (fun y hy => hU1.out y (List.mem_of_mem_take hy)))
                by_cases hltq : q4 < q3
                · have hqI : (q4 : Int) < (q3 : Int) := by omega
                  have hqI0 : (0 : Int) ≤ (q4 : Int) := by omega
                  have hqN : q4 < NM.length := by rw [hNl.out]; exact hltq
                  obtain ⟨bN, oN, rfl⟩ := hN.out.at_ q4 (by rw [List.length_map]; exact hqN)
                  have c0 := (hN.out.grown hbr).cell bN oN rfl q4 (by rw [List.length_map]; exact hqN)
                  rw [List.getElem_map] at c0
                  have hst : restP 4 G4 (NM.take (q4 + 1)) P3 = restS 4 G4 P4 NM[q4] := by rw [List.take_add_one, List.getElem?_eq_getElem hqN]; show restP 4 G4 (NM.take q4 ++ [NM[q4]]) P3 = _; rw [restP_snoc, hP4.out]
                  obtain ⟨e, he⟩ : ∃ v, Hid (NM[q4] = v) := ⟨_, Lib.hid rfl⟩
                  rw [he.out] at c0 hst
                  have hbl := World.block_lt_of_cell? wr _ c0
                  have Hc1 := Lib.hid (refHas_any G4 aG cG e wr HG.out.nms)
                  have hlen : Hid (n ≤ 404000) := Lib.hid (by have := Nat.le_trans hok4.out.len hUl.out; rwa [Hn.out] at this)
                  have Hl := Lib.hid (lay_any P4 a' c' w1.heap.size 4 e wr HO.out (by rw [Hn.out]; have := hlen.out; omega) hbr.size)
                  rw [hlG4.out] at Hc1
                  rw [Hn.out] at Hl
                  obtain ⟨S1, hS1⟩ : ∃ S, Hid (mem e G4 = S) := ⟨_, Lib.hid rfl⟩
                  have Hst : Hid (restP 4 G4 (NM.take (q4 + 1)) P3 = if (!S1) = true then layP P4 (4, e) else P4) := Lib.hid (by rw [hst]; unfold restS; rw [hS1.out])
                  rw [hS1.out] at Hc1
                  clear hst
                  go_wp2_with (fail)
                  refine Hc1.out.mono ?_
                  rintro r w3 ⟨rfl, hw3⟩
                  subst w3
                  cases S1
                  · go_wp2_with (fail)
                    refine Hl.out.mono ?_
                    rintro r w3 ⟨a2, c2, rfl, hO2, hg2⟩
                    have hb3 := hbr.trans (below_at hg2 (fun g e0 => (own_typ HO.out g (by rw [Hn.out]; exact e0)).1) hbr.size)
                    have HG2 := Lib.hid (own_kept_ty HG.out hg2 (fun g e0 => by obtain ⟨-, cur, h2⟩ := own_typ HO.out g (by rw [Hn.out]; exact e0); exact ⟨_, _, _, h2, by decide⟩))
                    have HO2 := Lib.hid hO2
                    clear hO2 hg2
                    go_wp2_with (fail)
                    exact ⟨⟨q4 + 1, _, a2, c2, by omega, by go_num, rfl, Lib.hid (by rw [Hst.out]; rfl), Lib.hid (by rw [Hst.out]; exact HO2.out), HG2, hb3⟩, by simp [intOf]; omega⟩
                  · go_wp2_with (fail)
                    exact ⟨⟨q4 + 1, n, a', c', by omega, by go_num, rfl, Lib.hid (by rw [Hst.out]; exact Hn.out), Lib.hid (by rw [Hst.out]; exact HO.out), HG, hbr⟩, by simp [intOf]; omega⟩
                · obtain rfl : q4 = q3 := by omega
                  have hqI : ¬ (q4 : Int) < (q4 : Int) := by omega
                  have hfin4 : Hid (restP 4 G4 NM P3 = P4) := Lib.hid (by rw [← hP4.out, List.take_of_length_le (by rw [hNl.out]; exact Nat.le_refl _)])
                  have z0 := cell_up hbr x1
                  have zl := Nat.lt_of_lt_of_le xl1 hbr.size
                  have hbw := hw1.trans (hbr.mono hw1.size)
                  go_wp2_with (fail)
                  exact bodyPost_ret (v := .slice a' n c') (by simp [results, Try.results138, go_sem]; try first | rfl | assumption | omega) rfl ⟨a', c', G4, hLed.out, by rw [hfinU.out, hfin3.out, hfin4.out, Hn.out], by rw [hfinU.out, hfin3.out, hfin4.out]; exact own_mono HO.out hw1.size, hbw⟩
end Go.Proofs.Ythogiakfbgehnaa

namespace Go.Proofs.Ythogiakfbgehnaa
open Go.RowKit Go.Shelf

attribute [local go_sem] Oper.semAt_some

/-- Names of alternatives, one behind another. -/
def flat (ds : List AltD) : List ByteArray := (ds.map AltD.l).flatten
end Go.Proofs.Ythogiakfbgehnaa

namespace Go.Proofs.Ythogiakfbgehnaa
open Go.RowKit

/-- A sentence comes from this name. -/
inductive Fert (rs : List Rl) (ts : List ByteArray) : ByteArray → Prop
  | tok {s : ByteArray} : s ∈ ts → Fert rs ts s
  | rule {r : Rl} {a : List ByteArray} : r ∈ rs → a ∈ r.2 → (∀ n ∈ a, Fert rs ts n) → Fert rs ts r.1
theorem pre_altStep (nm : ByteArray) (o a : List ByteArray) : Pre o (altStep nm o a) := by
  unfold altStep
  split
  · exact ⟨[nm], rfl⟩
  · exact Pre.refl o
theorem pre_alts (nm : ByteArray) : ∀ (l : List (List ByteArray)) (o : List ByteArray), Pre o (altsP nm l o)
  | [], o => Pre.refl o
  | a :: l, o => (pre_altStep nm o a).trans (pre_alts nm l (altStep nm o a))
theorem pre_pass : ∀ (rs : List Rl) (o : List ByteArray), Pre o (passP rs o)
  | [], o => Pre.refl o
  | r :: rs, o => (pre_alts r.1 r.2 o).trans (pre_pass rs (altsP r.1 r.2 o))
theorem pre_anti {o p : List ByteArray} (h : Pre o p) (k : Pre p o) : p = o := by
  obtain ⟨t, rfl⟩ := h
  obtain ⟨u, e⟩ := k
  have h1 := congrArg List.length e
  rw [List.length_append, List.length_append] at h1
  have ht : t = [] := List.length_eq_zero_iff.1 (by omega)
  rw [ht, List.append_nil]
theorem pre_mem {o p : List ByteArray} (h : Pre o p) {x : ByteArray} (hx : x ∈ o) : x ∈ p := by
  obtain ⟨t, rfl⟩ := h
  exact List.mem_append_left _ hx
/-- Nothing comes anew. -/
def Cl (rs : List Rl) (o : List ByteArray) : Prop := ∀ r ∈ rs, ∀ a ∈ r.2, (∀ n ∈ a, n ∈ o) → r.1 ∈ o
theorem altStep_same {nm : ByteArray} {o a : List ByteArray} (h : altStep nm o a = o) (ha : ∀ n ∈ a, n ∈ o) : nm ∈ o := by
  unfold altStep at h
  split at h
  · have := congrArg List.length h
    simp at this
  · rename_i h2
    have h3 : a.all (fun n => mem n o) = true := List.all_eq_true.2 (fun n hn => mem_iff.2 (ha n hn))
    rw [h3] at h2
    simp at h2
    exact mem_iff.1 h2
theorem alts_same {nm : ByteArray} : ∀ {l : List (List ByteArray)} {o : List ByteArray}, altsP nm l o = o → ∀ a ∈ l, (∀ n ∈ a, n ∈ o) → nm ∈ o
  | [], _, _, _, h, _ => by cases h
  | b :: l, o, e, a, h, ha => by
    have e1 : altStep nm o b = o := pre_anti (pre_altStep nm o b) (by
      have := pre_alts nm l (altStep nm o b)
      rw [show altsP nm l (altStep nm o b) = o from e] at this
      exact this)
    have e2 : altsP nm l o = o := by
      have : altsP nm l (altStep nm o b) = o := e
      rwa [e1] at this
    rcases List.mem_cons.1 h with rfl | h
    · exact altStep_same e1 ha
    · exact alts_same e2 a h ha
theorem pass_same : ∀ {rs : List Rl} {o : List ByteArray}, passP rs o = o → Cl rs o
  | [], _, _, _, h, _, _, _ => by cases h
  | q :: rs, o, e, r, h, a, hm, ha => by
    have e1 : altsP q.1 q.2 o = o := pre_anti (pre_alts q.1 q.2 o) (by
      have := pre_pass rs (altsP q.1 q.2 o)
      rw [show passP rs (altsP q.1 q.2 o) = o from e] at this
      exact this)
    have e2 : passP rs o = o := by
      have : passP rs (altsP q.1 q.2 o) = o := e
      rwa [e1] at this
    rcases List.mem_cons.1 h with rfl | h
    · exact alts_same e1 a hm ha
    · exact pass_same e2 r h a hm ha
theorem cl_fert {rs : List Rl} {ts o : List ByteArray} (hc : Cl rs o) (ht : ∀ s ∈ ts, s ∈ o) {s : ByteArray} (h : Fert rs ts s) : s ∈ o := by
  induction h with
  | tok h => exact ht _ h
  | rule h1 h2 _ ih => exact hc _ h1 _ h2 ih
/-- What comes to be known: tokens, and names of rules, each of these once. -/
def Grow (rs : List Rl) (ts o : List ByteArray) : Prop := ∃ t, o = ts ++ t ∧ t.Nodup ∧ (∀ x ∈ t, x ∈ rs.map Prod.fst) ∧ ∀ x ∈ o, Fert rs ts x
theorem grow_step {rs : List Rl} {ts o : List ByteArray} (h : Grow rs ts o) {r : Rl} (hr : r ∈ rs) {a : List ByteArray} (ha : a ∈ r.2) : Grow rs ts (altStep r.1 o a) := by
  unfold altStep
  split
  · rename_i hc
    simp only [Bool.and_eq_true, List.all_eq_true, Bool.not_eq_true'] at hc
    obtain ⟨t, rfl, h1, h2, h3⟩ := h
    have hn : r.1 ∉ ts ++ t := fun e => by have := mem_iff.2 e; rw [this] at hc; exact absurd hc.2 (by simp)
    have hf : Fert rs ts r.1 := .rule hr ha (fun n hn => h3 n (mem_iff.1 (hc.1 n hn)))
    refine ⟨t ++ [r.1], by rw [List.append_assoc], List.nodup_append.2 ⟨h1, by simp, fun x hx y hy e => hn ?_⟩, fun x hx => ?_, fun x hx => ?_⟩
    · rw [List.mem_singleton] at hy
      rw [← hy, ← e]
      exact List.mem_append_right _ hx
    · rcases List.mem_append.1 hx with hx | hx
      · exact h2 x hx
      · rw [List.mem_singleton] at hx
        rw [hx]
        exact List.mem_map_of_mem hr
    · rcases List.mem_append.1 hx with hx | hx
      · exact h3 x hx
      · rw [List.mem_singleton] at hx
        rw [hx]
        exact hf
  · exact h
theorem grow_alts {rs : List Rl} {ts : List ByteArray} {r : Rl} (hr : r ∈ rs) : ∀ (l : List (List ByteArray)) (o : List ByteArray), Grow rs ts o → (∀ a ∈ l, a ∈ r.2) → Grow rs ts (altsP r.1 l o)
  | [], _, h, _ => h
  | a :: l, o, h, hl => grow_alts hr l (altStep r.1 o a) (grow_step h hr (hl a List.mem_cons_self)) (fun b hb => hl b (List.mem_cons_of_mem _ hb))
theorem grow_pass {rs : List Rl} {ts : List ByteArray} : ∀ (l : List Rl) (o : List ByteArray), Grow rs ts o → (∀ r ∈ l, r ∈ rs) → Grow rs ts (passP l o)
  | [], _, h, _ => h
  | r :: l, o, h, hl => grow_pass l (altsP r.1 r.2 o) (grow_alts (hl r List.mem_cons_self) r.2 o h (fun _ h => h)) (fun b hb => hl b (List.mem_cons_of_mem _ hb))
theorem grow_fert (rs : List Rl) (ts : List ByteArray) : ∀ k, Grow rs ts (fertN rs ts k)
  | 0 => ⟨[], by simp [fertN], List.nodup_nil, fun x h => (by cases h), fun x h => .tok h⟩
  | k + 1 => grow_pass rs _ (grow_fert rs ts k) (fun _ h => h)
theorem fert_stop {rs : List Rl} {ts : List ByteArray} {k : Nat} (h : fertN rs ts (k + 1) = fertN rs ts k) : ∀ j, fertN rs ts (k + j) = fertN rs ts k
  | 0 => rfl
  | j + 1 => by
    show passP rs (fertN rs ts (k + j)) = _
    rw [fert_stop h j]
    exact h
theorem fert_grows (rs : List Rl) (ts : List ByteArray) : ∀ k, (∃ j, j < k ∧ fertN rs ts (j + 1) = fertN rs ts j) ∨ ts.length + k ≤ (fertN rs ts k).length
  | 0 => .inr (by simp [fertN])
  | k + 1 => by
    rcases fert_grows rs ts k with ⟨j, h1, h2⟩ | h
    · exact .inl ⟨j, by omega, h2⟩
    · by_cases e : fertN rs ts (k + 1) = fertN rs ts k
      · exact .inl ⟨k, by omega, e⟩
      · refine .inr ?_
        obtain ⟨t, ht⟩ := pre_pass rs (fertN rs ts k)
        have ht2 : fertN rs ts (k + 1) = fertN rs ts k ++ t := ht
        rw [ht2, List.length_append]
        have : t ≠ [] := fun e0 => e (by rw [ht2, e0, List.append_nil])
        have := List.length_pos_iff.2 this
        omega
/-- Behind as many passes as there are rules nothing comes anew. -/
theorem fert_cl (rs : List Rl) (ts : List ByteArray) : Cl rs (fertN rs ts rs.length) := by
  rcases fert_grows rs ts rs.length with ⟨j, h1, h2⟩ | h
  · have h3 := fert_stop h2 (rs.length - j)
    rw [show j + (rs.length - j) = rs.length by omega] at h3
    rw [h3]
    exact pass_same h2
  · obtain ⟨t, e, hn, hs, _⟩ := grow_fert rs ts rs.length
    rw [e, List.length_append] at h
    intro r hr a _ _
    rw [e]
    refine List.mem_append_right _ ?_
    refine Classical.byContradiction (fun hc => ?_)
    have := nodup_sub (r.1 :: t) (rs.map Prod.fst) (List.nodup_cons.2 ⟨hc, hn⟩) (fun x hx => by
      rcases List.mem_cons.1 hx with rfl | hx
      · exact List.mem_map_of_mem hr
      · exact hs x hx)
    simp at this
    omega
/-- **The reference's fertile names are those from which a sentence comes.** -/
theorem fertN_is (rs : List Rl) (ts : List ByteArray) (s : ByteArray) : mem s (fertN rs ts rs.length) = true ↔ Fert rs ts s := by
  rw [mem_iff]
  constructor
  · obtain ⟨_, _, _, _, h⟩ := grow_fert rs ts rs.length
    exact h s
  · refine cl_fert (fert_cl rs ts) (fun x hx => ?_)
    obtain ⟨t, e, _⟩ := grow_fert rs ts rs.length
    rw [e]
    exact List.mem_append_left _ hx
end Go.Proofs.Ythogiakfbgehnaa

namespace Go.Proofs.Ythogiakfbgehnaa
open Go.RowKit

/-- The first name leads to this one. -/
inductive Lead (rs : List Rl) (f : ByteArray) : ByteArray → Prop
  | base : Lead rs f f
  | step {r : Rl} {a : List ByteArray} {n : ByteArray} : Lead rs f r.1 → r ∈ rs → a ∈ r.2 → n ∈ a → Lead rs f n
theorem addS_mem {o : List ByteArray} {n x : ByteArray} : x ∈ addS o n ↔ x ∈ o ∨ x = n := by
  unfold addS
  split
  · rename_i h
    have h1 := mem_iff.1 h
    constructor
    · exact .inl
    · rintro (h | rfl)
      · exact h
      · exact h1
  · simp
theorem addAll_mem : ∀ {l o : List ByteArray} {x : ByteArray}, x ∈ addAll l o ↔ x ∈ o ∨ x ∈ l
  | [], o, x => by simp [addAll]
  | n :: l, o, x => by
    have e : addAll (n :: l) o = addAll l (addS o n) := rfl
    rw [e, addAll_mem, addS_mem, List.mem_cons, or_assoc]
theorem addAlts_mem : ∀ {l : List (List ByteArray)} {o : List ByteArray} {x : ByteArray}, x ∈ addAlts l o ↔ x ∈ o ∨ ∃ a ∈ l, x ∈ a
  | [], o, x => by simp [addAlts]
  | a :: l, o, x => by
    have e : addAlts (a :: l) o = addAlts l (addAll a o) := rfl
    rw [e, addAlts_mem, addAll_mem, or_assoc]
    simp
theorem visit_mem {y : ByteArray} : ∀ {rs : List Rl} {o : List ByteArray} {x : ByteArray}, x ∈ visit rs y o ↔ x ∈ o ∨ ∃ r ∈ rs, r.1 = y ∧ ∃ a ∈ r.2, x ∈ a
  | [], o, x => by simp [visit]
  | r :: rs, o, x => by
    have e : visit (r :: rs) y o = visit rs y (visitS y o r) := rfl
    rw [e, visit_mem]
    have h : x ∈ visitS y o r ↔ x ∈ o ∨ (r.1 = y ∧ ∃ a ∈ r.2, x ∈ a) := by
      unfold visitS
      split
      · rename_i h1
        rw [addAlts_mem]
        simp [h1]
      · rename_i h1
        simp [h1]
    rw [h, or_assoc]
    simp
theorem led_sound (rs : List Rl) (f : ByteArray) : ∀ (k : Nat), ∀ x ∈ ledO rs f k, Lead rs f x
  | 0, x, h => by
    rw [show x = f by simpa [ledO] using h]
    exact .base
  | k + 1, x, h => by
    rw [ledO] at h
    split at h
    · rename_i y hy
      rcases visit_mem.1 h with h | ⟨r, hr, hry, a, ha, hx⟩
      · exact led_sound rs f k x h
      · exact .step (by rw [hry]; exact led_sound rs f k y (List.mem_of_getElem? hy)) hr ha hx
    · exact led_sound rs f k x h
theorem led_pre (rs : List Rl) (f : ByteArray) (k : Nat) : Pre (ledO rs f k) (ledO rs f (k + 1)) := by
  rw [ledO]
  split
  · exact pre_visit _ rs _
  · exact Pre.refl _
theorem led_first (rs : List Rl) (f : ByteArray) : ∀ k, f ∈ ledO rs f k
  | 0 => by simp [ledO]
  | k + 1 => pre_mem (led_pre rs f k) (led_first rs f k)
/-- All that was looked at has put down the names of its rules. -/
theorem led_seen (rs : List Rl) (f : ByteArray) : ∀ k i x, i < k → (ledO rs f k)[i]? = some x → ∀ r ∈ rs, r.1 = x → ∀ a ∈ r.2, ∀ n ∈ a, n ∈ ledO rs f k
  | 0, _, _, h, _ => absurd h (Nat.not_lt_zero _)
  | k + 1, i, x, h, hx => by
    intro r hr hrx a ha n hn
    by_cases hi : i < (ledO rs f k).length
    · have hx2 : (ledO rs f k)[i]? = some x := ((led_pre rs f k).at hi).symm.trans hx
      by_cases hik : i < k
      · exact pre_mem (led_pre rs f k) (led_seen rs f k i x hik hx2 r hr hrx a ha n hn)
      · obtain rfl : i = k := by omega
        rw [ledO, hx2]
        exact visit_mem.2 (.inr ⟨r, hr, hrx, a, ha, hn⟩)
    · by_cases hik : i < k
      · have h0 : (ledO rs f k)[k]? = none := List.getElem?_eq_none (by omega)
        rw [ledO, h0] at hx
        exact absurd (List.getElem?_eq_some_iff.1 hx).1 hi
      · obtain rfl : i = k := by omega
        have h0 : (ledO rs f i)[i]? = none := List.getElem?_eq_none (by omega)
        rw [ledO, h0] at hx
        exact absurd (List.getElem?_eq_some_iff.1 hx).1 hi
theorem led_is {rs : List Rl} {f : ByteArray} {k : Nat} (hk : (ledO rs f k).length ≤ k) (s : ByteArray) : mem s (ledO rs f k) = true ↔ Lead rs f s := by
  rw [mem_iff]
  constructor
  · exact led_sound rs f k s
  · intro h
    induction h with
    | base => exact led_first rs f k
    | @step r a n _ hr ha hn ih =>
      obtain ⟨i, hi⟩ := List.getElem?_of_mem ih
      exact led_seen rs f k i r.1 (Nat.lt_of_lt_of_le (List.getElem?_eq_some_iff.1 hi).1 hk) hi r hr rfl a ha n hn
/-- **What the reference's led comes to: the names to which the first rule leads; none, if there is no rule.** -/
theorem ledR_is {rs : List RlD} {o : List ByteArray} (h : LedR rs o) (s : ByteArray) : mem s o = true ↔ ∃ r, rs.head? = some r ∧ Lead (grP rs) r.n s := by
  cases rs with
  | nil =>
    have : o = [] := h
    subst this
    simp [mem]
  | cons r rs =>
    obtain ⟨k, rfl, hk⟩ := h
    rw [led_is hk]
    simp
end Go.Proofs.Ythogiakfbgehnaa

namespace Go.Proofs.Ythogiakfbgehnaa
open Go.RowKit Go.Maps Go.WideMaps

theorem rlC_at (l : List RlD) (i : Nat) (h : i < l.length) : (l.flatMap RlD.cells)[i * 2]? = some (.string l[i].n) ∧ (l.flatMap RlD.cells)[i * 2 + 1]? = some (.slice l[i].a l[i].ds.length l[i].c) := by
  induction l generalizing i with
  | nil => simp at h
  | cons f r ih =>
    rw [List.flatMap_cons]
    cases i with
    | zero => exact ⟨rfl, rfl⟩
    | succ j =>
      have hj : j < r.length := by simpa using h
      have := ih j hj
      rw [show (j + 1) * 2 = 2 + j * 2 by omega, show 2 + j * 2 + 1 = 2 + (j * 2 + 1) by omega]
      rw [List.getElem?_append_right (by simp [RlD.cells]), List.getElem?_append_right (by simp [RlD.cells])]
      simpa [RlD.cells] using this
theorem OwnR.le8 {W : World} {base cap : Nat} {a : Option Addr} {l : List RlD} (h : OwnR W base a cap l) : l.length ≤ cap ∧ cap ≤ 9223372036854775807 := by
  rcases h.2 with ⟨e1, e2⟩ | ⟨g, cap', cur, e1, hb, hg, hle, hm, hs, ht⟩
  · simp only [Value.slice.injEq] at e1
    omega
  · simp only [Value.slice.injEq] at e1
    unfold maxLen at hm
    omega
theorem OwnR.at8 {W : World} {base cap : Nat} {a : Option Addr} {l : List RlD} (h : OwnR W base a cap l) (i : Nat) (hi : i < l.length) :
    ∃ g, a = some ⟨g, 0, none⟩ ∧ base ≤ g ∧ g < W.heap.size ∧ W.cell? ⟨g, i * 2, none⟩ = some (.string l[i].n) ∧ W.cell? ⟨g, i * 2 + 1, none⟩ = some (.slice l[i].a l[i].ds.length l[i].c) := by
  rcases h.2 with ⟨_, e2⟩ | ⟨g, cap', cur, e1, hb, hg, hle, hm, hs, ht⟩
  · omega
  · simp only [Value.slice.injEq] at e1
    obtain ⟨rfl, -, rfl⟩ := e1
    have h1 := h.cellAt (i * 2) (by omega)
    have h2 := h.cellAt (i * 2 + 1) (by omega)
    have := rlC_at l i hi
    exact ⟨g, rfl, hb, (Array.getElem?_eq_some_iff.1 hg).1, by rw [h1]; exact this.1, by rw [h2]; exact this.2⟩
theorem OwnR.push8 {w : World} {base cap : Nat} {a : Option Addr} {l : List RlD} (h : OwnR w base a cap l) (x : RlD) (ty : TypeId) (hn : l.length + 1 ≤ 1000000000) (hb : base ≤ w.heap.size) :
    ∃ a' c' w', (Builtin.append_ #[122, 122] ty #[.slice a l.length cap, .slice (some ⟨w.heap.size, 0, none⟩) 1 1]).run Try.prog (w.alloc (.cells #[.string x.n, .slice x.a x.ds.length x.c] 177)) = .ok (.slice a' (l.length + 1) c') w' ∧
      OwnR w' base a' c' (l ++ [x]) ∧ w.grownBy w' (Value.slice a l.length cap).ownBlock ∧ (∀ g, (Value.slice a' (l ++ [x]).length c').ownBlock = some g → (Value.slice a l.length cap).ownBlock = some g ∨ w.heap.size ≤ g) := by
  obtain ⟨i0, hi, hz0, hz1, hz2⟩ := info_parts info_rule
  have hnew : ∀ j u, (RlD.cells x)[j]? = some u → (w.alloc (.cells #[.string x.n, .slice x.a x.ds.length x.c] 177)).cell? ((⟨w.heap.size, 0, none⟩ : Addr).add j) = some u := by
    intro j u hj
    have := World.alloc_heap_new w (.cells #[.string x.n, .slice x.a x.ds.length x.c] 177)
    have e : ((⟨w.heap.size, 0, none⟩ : Addr).add j) = ⟨w.heap.size, j, none⟩ := by simp [Addr.add]; exact Eq.symm
    rw [e]
    unfold World.cell?
    rw [show ((⟨w.heap.size, j, none⟩ : Addr).block) = w.heap.size from rfl, this]
    simp only [Option.bind_some]
    simpa [RlD.cells] using hj
  obtain ⟨v', w', hrun, ho, hg, _, hw⟩ := run_append_own_at (P := Try.prog) (w := w.alloc (.cells #[.string x.n, .slice x.a x.ds.length x.c] 177)) base 122 ty 177 i0 _ 2 40 Try.underlying122 hi hz0 hz1 hz2 rfl (by decide) _ _ _ (h.alloc _) ⟨w.heap.size, 0, none⟩ 1 1 (RlD.cells x) rfl hnew (fun u hu => by
    simp only [RlD.cells, List.mem_cons, List.not_mem_nil, or_false] at hu
    rcases hu with rfl | rfl <;> rfl) (by unfold maxLen; omega) (by omega) (by simp; omega)
  obtain ⟨a', cap', rfl⟩ := slice_of_own ho
  refine ⟨a', cap', w', hrun, ?_, grownBy_trans (World.grownBy_alloc w _ _) hg (fun i e => .inl e), fun g e => ?_⟩
  · unfold OwnR
    rw [List.flatMap_append, List.length_append]
    simpa using ho
  · have e2 : (Value.slice a' (l.length + 1) cap').ownBlock = some g := by simpa using e
    rcases hw with hw | hw
    · exact .inl (by rw [← hw]; exact e2)
    · rw [hw] at e2
      have := Option.some.inj e2
      exact .inr (by rw [← this]; simp)
/-- The names in rules' alternatives, as they stand there. -/
theorem namesR_flat (rs : List RlD) : namesR (grP rs) = rs.flatMap (fun r => flat r.ds) := by
  unfold namesR grP flat
  rw [List.flatMap_map]
  rfl
end Go.Proofs.Ythogiakfbgehnaa

namespace Go.Proofs.Ythogiakfbgehnaa
open Go.RowKit Go.Maps Go.WideMaps

end Go.Proofs.Ythogiakfbgehnaa

namespace Go.Proofs.Ythogiakfbgehnaa
open Go.RowKit Go.Maps

attribute [local go_sem] Oper.semAt_some

theorem iatLS {α : Type} {l : List α} {i : Nat} {x : α} (h : l[i]? = some x) : l.toArray[i]? = some x := by simpa using h
theorem iatZS {α : Type} {a : α} {l : List α} : (a :: l)[0]? = some a := rfl
theorem iatSS {α : Type} {a : α} {l : List α} {i : Nat} {x : α} (h : l[i]? = some x) : (a :: l)[i + 1]? = some x := by simpa using h

theorem stepAppS {P : Program} {ops : Array Oper} {o : Oper} {a : Act} {w : World} {K : Act → World → Prop} {Q : Exit → Act → World → Prop} {E : Prop} (hgd : o.guard = none) (s x : Operand) (t t2 : TypeId)
    (hop : o.op = Op.call { callee := Callee.builtin Builtin.append, args := #[s, x], argTypes := #[t, t2] }) (vs vx v' : Value) (w' : World) (hs : a.eval s = vs) (hx : a.eval x = vx)
    (hrun : (Builtin.append_ #[t, t2] o.type #[vs, vx]).run P w = .ok v' w') (h : K (a.put o.dst v') w') :
    if Region.wanted o (yielded ops a.tmps) = true then Oper.wp P o a w K Q else E := by
  have hw : Region.wanted o (yielded ops a.tmps) = true := by simp [Region.wanted, hgd]
  rw [if_pos hw]
  unfold Oper.wp
  simp [execOp, hop, resolve, invoke, builtin, hs, hx, hrun, Result.andThen]
  exact h
end Go.Proofs.Ythogiakfbgehnaa

namespace Go.Proofs.Ythogiakfbgehnaa
open Go.RowKit Go.Maps

attribute [local go_sem] Oper.semAt_some

/-- A way, without where it lies. -/
def WyD.p {α : Type} (y : WyD α) : Wy α := ⟨y.n, y.l⟩
end Go.Proofs.Ythogiakfbgehnaa

namespace Go.Proofs.Ythogiakfbgehnaa
open Go.RowKit Go.Shelf

attribute [local go_sem] Oper.semAt_some

def szA (ds : List AltD) : Nat := (ds.map (fun d => d.l.length)).sum
def szR (rs : List RlD) : Nat := (rs.map (fun r => r.ds.length + szA r.ds)).sum
theorem szR_take (rs : List RlD) (i : Nat) (h : i < rs.length) : szR (rs.take (i + 1)) = szR (rs.take i) + (rs[i].ds.length + szA rs[i].ds) := by
  unfold szR
  rw [List.take_add_one, List.getElem?_eq_getElem h, List.map_append, List.sum_append_nat]
  simp
theorem szR_le (rs : List RlD) (i : Nat) : szR (rs.take i) ≤ szR rs := by
  have : szR rs = szR (rs.take i) + szR (rs.drop i) := by
    unfold szR
    rw [← List.sum_append_nat, ← List.map_append, List.take_append_drop]
  omega

end Go.Proofs.Ythogiakfbgehnaa

namespace Go.Proofs.Ythogiakfbgehnaa
open Go.RowKit Go.Maps

attribute [local go_sem] Oper.semAt_some

end Go.Proofs.Ythogiakfbgehnaa

namespace Go.Proofs.Ythogiakfbgehnaa
open Go.RowKit Go.Maps

attribute [local go_sem] Oper.semAt_some

end Go.Proofs.Ythogiakfbgehnaa

namespace Go.Proofs.Ythogiakfbgehnaa
open Go.RowKit Go.Maps

attribute [local go_sem] Oper.semAt_some

end Go.Proofs.Ythogiakfbgehnaa

namespace Go.Proofs.Ythogiakfbgehnaa
open Go.RowKit Go.Maps Go.WideMaps

end Go.Proofs.Ythogiakfbgehnaa

namespace Go.Proofs.Ythogiakfbgehnaa
open Go.RowKit Go.Maps Go.WideMaps

end Go.Proofs.Ythogiakfbgehnaa

namespace Go.Proofs.Ythogiakfbgehnaa
open Go.RowKit Go.Maps

end Go.Proofs.Ythogiakfbgehnaa

namespace Go.Proofs.Ythogiakfbgehnaa
open Go.RowKit Go.Maps

attribute [local go_sem] Oper.semAt_some

/-- Flaws of a kind: the names that are not right. -/
def restM (kd : Int) (m : ByteArray → Bool) (l : List ByteArray) (o : List Fl) : List Fl := l.foldl (fun o n => if (!m n) = true then layP o (kd, n) else o) o
end Go.Proofs.Ythogiakfbgehnaa

namespace Go.Proofs.Ythogiakfbgehnaa
open Go.RowKit Go.Maps

attribute [local go_sem] Oper.semAt_some

end Go.Proofs.Ythogiakfbgehnaa

namespace Go.Proofs.Ythogiakfbgehnaa
open Go.RowKit Go.Maps

noncomputable def fertM (rs : List RlD) (ts : List ByteArray) (s : ByteArray) : Bool := @decide (Fert (grP rs) ts s) (Classical.propDecidable _)
noncomputable def nearM (rs : List RlD) (s : ByteArray) : Bool := @decide (∃ r, rs.head? = some r ∧ Lead (grP rs) r.n s) (Classical.propDecidable _)
theorem fertM_iff (rs : List RlD) (ts : List ByteArray) (s : ByteArray) : fertM rs ts s = true ↔ Fert (grP rs) ts s := by unfold fertM; exact @decide_eq_true_iff _ (Classical.propDecidable _)
theorem nearM_iff (rs : List RlD) (s : ByteArray) : nearM rs s = true ↔ ∃ r, rs.head? = some r ∧ Lead (grP rs) r.n s := by unfold nearM; exact @decide_eq_true_iff _ (Classical.propDecidable _)
/-- All flaws of a grammar. -/
noncomputable def FLW (rs : List RlD) (ts : List ByteArray) : List Fl :=
  restM 4 (nearM rs) (rs.map RlD.n) (restM 3 (fertM rs ts) (rs.map RlD.n) (unkP ts (rs.map RlD.n) (grP rs) (dblN ts (rs.map RlD.n) rs.length)))
theorem rest_M (kd : Int) (good : List ByteArray) (m : ByteArray → Bool) (h : ∀ s, mem s good = m s) (l : List ByteArray) (o : List Fl) : restP kd good l o = restM kd m l o := by
  unfold restP restM
  congr 1
  funext o n
  unfold restS
  rw [h]
theorem flawsP_is {rs : List RlD} {ts o : List ByteArray} (h : LedR rs o) : flawsP (grP rs) ts (fertN (grP rs) ts rs.length) o = FLW rs ts := by
  have e : (grP rs).map Prod.fst = rs.map RlD.n := by simp [grP, RlD.p]
  have hl : (grP rs).length = rs.length := by simp [grP]
  have h1 : ∀ s, mem s (fertN (grP rs) ts rs.length) = fertM rs ts s := fun s => by
    rw [Bool.eq_iff_iff, fertM_iff, ← hl]
    exact fertN_is (grP rs) ts s
  have h2 : ∀ s, mem s o = nearM rs s := fun s => by
    rw [Bool.eq_iff_iff, nearM_iff]
    exact ledR_is h s
  unfold flawsP FLW
  rw [e, rest_M 3 _ _ h1, rest_M 4 _ _ h2, List.length_map]
end Go.Proofs.Ythogiakfbgehnaa

namespace Go.Proofs.Ythogiakfbgehnaa
open Go.RowKit Go.Maps

attribute [local go_sem] Oper.semAt_some

theorem run_storeF {P : Program} (w : World) (a : Addr) (m : Mode) (f : Fn) (x y : Array Value) : (store a (.func f x y) m).run P w = stored P w a (.func f x y) m := run_store P w a _ m rfl
attribute [local go_sem] run_storeF
/-- What Flaws answers. -/
def FlawQ (w : World) (F : List Fl) (e : Ending) (W' : World) : Prop := ∃ a' c', e = .returned (.slice a' F.length c') ∧ OwnF W' w.heap.size a' c' F ∧ Below w.heap.size w W'
end Go.Proofs.Ythogiakfbgehnaa

