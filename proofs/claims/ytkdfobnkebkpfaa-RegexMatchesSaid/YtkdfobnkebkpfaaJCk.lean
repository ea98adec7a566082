/- Texts of layer 2 joined: WCk PCk. -/
import Derived.Test.YtkdfobnkebkpfaaJP
import Derived.Test.YtkdfobnkebkpfaaJM
import Derived.Test.YtkdfobnkebkpfaaJN
import Derived.Deep.RegionHeld3
import Derived.Test.YtkdfobnkebkpfaaJO
set_option linter.unusedVariables false
set_option linter.unusedSimpArgs false
/- The law RegexChecks. -/
namespace Go.Proofs.Ytkdfobnkebkpfaa
open Go.RowKit Go.Shelf

attribute [local go_sem] Oper.semAt_some

theorem few_wt {m : Int} {h : Hd} {kids : Fo} (e : fewB m h kids = true) : (kids.wt : Int) + (h.set.length : Int) + 1 ≤ m := of_decide_eq_true e
theorem bigB_two {h g : Hd} {k j : Fo} (e : bigB (.cons h k (.cons g j .nil)) = false) : fewB 1000 h k = true ∧ fewB 1000 g j = true := by
  unfold bigB at e
  generalize (1000 : Int) = m at *
  simp only [bigF, Bool.or_eq_false_iff, Bool.not_eq_false'] at e
  exact ⟨e.1, e.2.1⟩
theorem bigB_one {h : Hd} {k : Fo} (e : bigB (.cons h k .nil) = false) : fewB 1000 h k = true := by
  unfold bigB at e
  generalize (1000 : Int) = m at *
  simp only [bigF, Bool.or_eq_false_iff, Bool.not_eq_false'] at e
  exact e.1

set_option maxRecDepth 100000 in
set_option maxHeartbeats 4000000 in
theorem regexChecks_any (h g : Hd) (kids gids : Fo) (sa ta : Option Addr) (sc tc : Nat) (a b : Option Addr) (cap dap : Nat) (pa : Option Addr) (pc : Nat) (l : List Sp) (w : World) (hss : Sps w sa sc h.set) (hts : Sps w ta tc g.set) (hI : Items w a cap kids) (hJ : Items w b dap gids) (hl : Sps w pa pc l) :
    Calls Try.prog 3 #[itemV h sa sc a kids.len cap, itemV g ta tc b gids.len dap, .slice pa l.length pc] w fun e w' => e = .returned (.bool true) ∧ Below w.heap.size w w' := by
  obtain ⟨hk, hs⟩ := h
  obtain ⟨gk, gs⟩ := g
  dsimp only [itemV] at *
  have hple := hl.le
  have hpmx := hl.max
  obtain ⟨L, HL⟩ : ∃ L, Hid (kids.len = L) := ⟨_, Lib.hid rfl⟩
  obtain ⟨M, HM⟩ : ∃ L, Hid (gids.len = L) := ⟨_, Lib.hid rfl⟩
  obtain ⟨S, HS⟩ : ∃ L, Hid (hs.length = L) := ⟨_, Lib.hid rfl⟩
  obtain ⟨T, HT⟩ : ∃ L, Hid (gs.length = L) := ⟨_, Lib.hid rfl⟩
  obtain ⟨P, HP⟩ : ∃ L, Hid (l.length = L) := ⟨_, Lib.hid rfl⟩
  rw [HP.out] at hple
  rw [HL.out, HM.out, HS.out, HT.out, HP.out]
  have hA0 := (Blk.new w 25 #[.int .i64 hk, .slice sa S sc, .slice a L cap]).alloc (.cells #[.int .i64 gk, .slice ta T tc, .slice b M dap] 25)
  have hB0 := Blk.new (w.alloc (.cells #[.int .i64 hk, .slice sa S sc, .slice a L cap] 25)) 25 #[.int .i64 gk, .slice ta T tc, .slice b M dap]
  rw [World.size_alloc] at hB0
  have hb0 : Below w.heap.size w ((w.alloc (.cells #[.int .i64 hk, .slice sa S sc, .slice a L cap] 25)).alloc (.cells #[.int .i64 gk, .slice ta T tc, .slice b M dap] 25)) := ((Below.refl w.heap.size w).alloc (Nat.le_refl _) _).alloc (by simp) _
  go_enter Try.func3, Try.ntmps3
  go_wp2_with (fail)
  refine (live_any _).mono ?_
  rintro e w1 ⟨rfl, hb1⟩
  have hA1 := hA0.below hb1 hA0.lt
  have hB1 := hB0.below hb1 hB0.lt
  have hbw1 : Below w.heap.size w w1 := hb0.trans (hb1.mono hb0.size)
  clear hA0 hB0 hb0 hb1
  have hl1 := hA1.lt
  have hl2 := hB1.lt
  have x0 := hA1.cell 0
  have x1 := hA1.cell 1
  have x2 := hA1.cell 2
  have y0 := hB1.cell 0
  have y1 := hB1.cell 1
  have y2 := hB1.cell 2
  simp only [List.getElem?_cons_zero, List.getElem?_cons_succ] at x0 x1 x2 y0 y1 y2
  have hR := Blk.new w1 25 #[.int .i64 hk, .slice sa S sc, .slice a L cap, .int .i64 gk, .slice ta T tc, .slice b M dap]
  have hbR : Below w1.heap.size w1 (w1.alloc (.cells #[.int .i64 hk, .slice sa S sc, .slice a L cap, .int .i64 gk, .slice ta T tc, .slice b M dap] 25)) := (Below.refl _ w1).alloc (Nat.le_refl _) _
  have hIr := (hI.grown hbw1).grown hbR
  have hJr := (hJ.grown hbw1).grown hbR
  have hsr := (hss.grown hbw1).grown hbR
  have htr := (hts.grown hbw1).grown hbR
  have hIt : Items (w1.alloc (.cells #[.int .i64 hk, .slice sa S sc, .slice a L cap, .int .i64 gk, .slice ta T tc, .slice b M dap] 25)) (some ⟨w1.heap.size, 0, none⟩) 2 (.cons ⟨hk, hs⟩ kids (.cons ⟨gk, gs⟩ gids .nil)) :=
    ⟨by simp [Fo.len], by omega, fun e => (by cases e), fun _ => ⟨_, _, rfl, hR.cell 0, ⟨sa, sc, by rw [HS.out]; exact hR.cell 1, hsr⟩, ⟨a, cap, by rw [HL.out]; exact hR.cell 2, hIr.le, hIr.max, hIr.nil_, hIr.at_⟩, hR.cell 3, ⟨ta, tc, by rw [HT.out]; exact hR.cell 4, htr⟩, ⟨b, dap, by rw [HM.out]; exact hR.cell 5, hJr.le, hJr.max, hJr.nil_, hJr.at_⟩, trivial⟩⟩
  have hbig := big_any _ _ _ _ hIt
  obtain ⟨B, HB⟩ : ∃ B, Hid (bigB (.cons ⟨hk, hs⟩ kids (.cons ⟨gk, gs⟩ gids .nil)) = B) := ⟨_, Lib.hid rfl⟩
  rw [HB.out] at hbig
  simp only [Fo.len, Nat.zero_add, Nat.reduceAdd] at hbig
  go_wp2_with (fail)
  refine hbig.mono ?_
  rintro e w3 ⟨rfl, hb3⟩
  have hb13 : Below w1.heap.size w1 w3 := hbR.trans (hb3.mono hbR.size)
  have hA3 := hA1.below hb13 hA1.lt
  have hB3 := hB1.below hb13 hB1.lt
  have hbw3 : Below w.heap.size w w3 := hbw1.trans (hb13.mono hbw1.size)
  have hI3 := hI.grown hbw3
  have hJ3 := hJ.grown hbw3
  have hs3 := hss.grown hbw3
  have ht3 := hts.grown hbw3
  have hp3 := hl.grown hbw3
  clear hA1 hB1 hR hbR hIr hJr hsr htr hIt hbig hb3 hb13 hbw1 x0 x1 x2 y0 y1 y2 hl1 hl2
  cases B
  case true =>
    go_wp2_with (fail)
    exact bodyPost_ret (v := .bool true) (by simp [results, Try.results3, go_sem]; try rfl) rfl ⟨rfl, hbw3⟩
  by_cases hP : 300 < P
  · have hPI : (300 : Int) < (P : Int) := by omega
    go_wp2_with (fail)
    exact bodyPost_ret (v := .bool true) (by simp [results, Try.results3, go_sem]; try rfl) rfl ⟨rfl, hbw3⟩
  have hPI : ¬ (300 : Int) < (P : Int) := by omega
  have hsz : kids.size ≤ 1000 ∧ gids.size ≤ 1000 := by
    obtain ⟨h1, h2⟩ := bigB_two HB.out
    have h3 := few_wt h1
    have h4 := few_wt h2
    have h5 := Fo.size_wt kids
    have h6 := Fo.size_wt gids
    omega
  obtain ⟨hz1, hz2⟩ := hsz
  have hKeep : ∀ w', Below w3.heap.size w3 w' → (Below w3.heap.size w3 w' ∧ w'.cell? ⟨w.heap.size, 0, none⟩ = some (.int .i64 hk) ∧ w'.cell? ⟨w.heap.size, 1, none⟩ = some (.slice sa S sc) ∧ w'.cell? ⟨w.heap.size, 2, none⟩ = some (.slice a L cap) ∧ w'.cell? ⟨w.heap.size + 1, 0, none⟩ = some (.int .i64 gk) ∧ w'.cell? ⟨w.heap.size + 1, 1, none⟩ = some (.slice ta T tc) ∧ w'.cell? ⟨w.heap.size + 1, 2, none⟩ = some (.slice b M dap)) := fun w' hb => by
    have k1 := hA3.below hb hA3.lt
    have k2 := hB3.below hb hB3.lt
    exact ⟨hb, k1.cell 0, k1.cell 1, k1.cell 2, k2.cell 0, k2.cell 1, k2.cell 2⟩
  have hS0 := hKeep w3.drew ((Below.refl _ w3).drew)
  obtain ⟨E, HE⟩ : ∃ E : Int, Hid (checkE (Fo.pre 1 (.cons ⟨hk, hs⟩ kids .nil)) = E) := ⟨_, Lib.hid rfl⟩
  obtain ⟨D, HD⟩ : ∃ D : Bool, Hid ((hdB ⟨hk, hs⟩ ⟨gk, gs⟩ L M && sameB kids gids) = D) := ⟨_, Lib.hid rfl⟩
  obtain ⟨X, HX⟩ : ∃ X, Hid (spP (inSp l) 256 = X) := ⟨_, Lib.hid rfl⟩
  have c1 : ∀ w', (Below w3.heap.size w3 w' ∧ w'.cell? ⟨w.heap.size, 0, none⟩ = some (.int .i64 hk) ∧ w'.cell? ⟨w.heap.size, 1, none⟩ = some (.slice sa S sc) ∧ w'.cell? ⟨w.heap.size, 2, none⟩ = some (.slice a L cap) ∧ w'.cell? ⟨w.heap.size + 1, 0, none⟩ = some (.int .i64 gk) ∧ w'.cell? ⟨w.heap.size + 1, 1, none⟩ = some (.slice ta T tc) ∧ w'.cell? ⟨w.heap.size + 1, 2, none⟩ = some (.slice b M dap)) → Calls Try.prog 14 #[.agg #[.int .i64 hk, .slice sa S sc, .slice a L cap]] w' fun e w5 => e = .returned (.int .i64 E) ∧ (Below w3.heap.size w3 w5 ∧ w5.cell? ⟨w.heap.size, 0, none⟩ = some (.int .i64 hk) ∧ w5.cell? ⟨w.heap.size, 1, none⟩ = some (.slice sa S sc) ∧ w5.cell? ⟨w.heap.size, 2, none⟩ = some (.slice a L cap) ∧ w5.cell? ⟨w.heap.size + 1, 0, none⟩ = some (.int .i64 gk) ∧ w5.cell? ⟨w.heap.size + 1, 1, none⟩ = some (.slice ta T tc) ∧ w5.cell? ⟨w.heap.size + 1, 2, none⟩ = some (.slice b M dap)) := fun w' hS => by
    have hc := rcheck_any ⟨hk, hs⟩ kids sa sc a cap w' (hs3.grown hS.1) (hI3.grown hS.1) (by omega)
    dsimp only [itemV] at hc
    rw [HL.out, HS.out, HE.out] at hc
    exact hc.mono fun e w5 hp => ⟨hp.1, hKeep w5 (hS.1.trans (hp.2.mono hS.1.size))⟩
  have c2 : ∀ w', (Below w3.heap.size w3 w' ∧ w'.cell? ⟨w.heap.size, 0, none⟩ = some (.int .i64 hk) ∧ w'.cell? ⟨w.heap.size, 1, none⟩ = some (.slice sa S sc) ∧ w'.cell? ⟨w.heap.size, 2, none⟩ = some (.slice a L cap) ∧ w'.cell? ⟨w.heap.size + 1, 0, none⟩ = some (.int .i64 gk) ∧ w'.cell? ⟨w.heap.size + 1, 1, none⟩ = some (.slice ta T tc) ∧ w'.cell? ⟨w.heap.size + 1, 2, none⟩ = some (.slice b M dap)) → Calls Try.prog 15 #[.agg #[.int .i64 hk, .slice sa S sc, .slice a L cap]] w' fun e w5 => e = .returned (.int .i64 E) ∧ (Below w3.heap.size w3 w5 ∧ w5.cell? ⟨w.heap.size, 0, none⟩ = some (.int .i64 hk) ∧ w5.cell? ⟨w.heap.size, 1, none⟩ = some (.slice sa S sc) ∧ w5.cell? ⟨w.heap.size, 2, none⟩ = some (.slice a L cap) ∧ w5.cell? ⟨w.heap.size + 1, 0, none⟩ = some (.int .i64 gk) ∧ w5.cell? ⟨w.heap.size + 1, 1, none⟩ = some (.slice ta T tc) ∧ w5.cell? ⟨w.heap.size + 1, 2, none⟩ = some (.slice b M dap)) := fun w' hS => by
    have hc := refCheck_any ⟨hk, hs⟩ kids sa sc a cap w' (hs3.grown hS.1) (hI3.grown hS.1) (by omega)
    dsimp only [itemV] at hc
    rw [HL.out, HS.out, HE.out] at hc
    exact hc.mono fun e w5 hp => ⟨hp.1, hKeep w5 (hS.1.trans (hp.2.mono hS.1.size))⟩
  have c3 : ∀ w', (Below w3.heap.size w3 w' ∧ w'.cell? ⟨w.heap.size, 0, none⟩ = some (.int .i64 hk) ∧ w'.cell? ⟨w.heap.size, 1, none⟩ = some (.slice sa S sc) ∧ w'.cell? ⟨w.heap.size, 2, none⟩ = some (.slice a L cap) ∧ w'.cell? ⟨w.heap.size + 1, 0, none⟩ = some (.int .i64 gk) ∧ w'.cell? ⟨w.heap.size + 1, 1, none⟩ = some (.slice ta T tc) ∧ w'.cell? ⟨w.heap.size + 1, 2, none⟩ = some (.slice b M dap)) → Calls Try.prog 16 #[.agg #[.int .i64 hk, .slice sa S sc, .slice a L cap], .agg #[.int .i64 gk, .slice ta T tc, .slice b M dap]] w' fun e w5 => e = .returned (.bool D) ∧ (Below w3.heap.size w3 w5 ∧ w5.cell? ⟨w.heap.size, 0, none⟩ = some (.int .i64 hk) ∧ w5.cell? ⟨w.heap.size, 1, none⟩ = some (.slice sa S sc) ∧ w5.cell? ⟨w.heap.size, 2, none⟩ = some (.slice a L cap) ∧ w5.cell? ⟨w.heap.size + 1, 0, none⟩ = some (.int .i64 gk) ∧ w5.cell? ⟨w.heap.size + 1, 1, none⟩ = some (.slice ta T tc) ∧ w5.cell? ⟨w.heap.size + 1, 2, none⟩ = some (.slice b M dap)) := fun w' hS => by
    have hc := rsame_any ⟨hk, hs⟩ ⟨gk, gs⟩ kids gids sa ta sc tc a b cap dap w' (by omega) (hs3.grown hS.1) (ht3.grown hS.1) (hI3.grown hS.1) (hJ3.grown hS.1)
    dsimp only [itemV] at hc
    rw [HL.out, HM.out, HS.out, HT.out, HD.out] at hc
    exact hc.mono fun e w5 hp => ⟨hp.1, hKeep w5 (hS.1.trans (hp.2.mono hS.1.size))⟩
  have c4 : ∀ w', (Below w3.heap.size w3 w' ∧ w'.cell? ⟨w.heap.size, 0, none⟩ = some (.int .i64 hk) ∧ w'.cell? ⟨w.heap.size, 1, none⟩ = some (.slice sa S sc) ∧ w'.cell? ⟨w.heap.size, 2, none⟩ = some (.slice a L cap) ∧ w'.cell? ⟨w.heap.size + 1, 0, none⟩ = some (.int .i64 gk) ∧ w'.cell? ⟨w.heap.size + 1, 1, none⟩ = some (.slice ta T tc) ∧ w'.cell? ⟨w.heap.size + 1, 2, none⟩ = some (.slice b M dap)) → Calls Try.prog 17 #[.agg #[.int .i64 hk, .slice sa S sc, .slice a L cap], .agg #[.int .i64 gk, .slice ta T tc, .slice b M dap]] w' fun e w5 => e = .returned (.bool D) ∧ (Below w3.heap.size w3 w5 ∧ w5.cell? ⟨w.heap.size, 0, none⟩ = some (.int .i64 hk) ∧ w5.cell? ⟨w.heap.size, 1, none⟩ = some (.slice sa S sc) ∧ w5.cell? ⟨w.heap.size, 2, none⟩ = some (.slice a L cap) ∧ w5.cell? ⟨w.heap.size + 1, 0, none⟩ = some (.int .i64 gk) ∧ w5.cell? ⟨w.heap.size + 1, 1, none⟩ = some (.slice ta T tc) ∧ w5.cell? ⟨w.heap.size + 1, 2, none⟩ = some (.slice b M dap)) := fun w' hS => by
    have hc := refSame_any 1001 ⟨hk, hs⟩ ⟨gk, gs⟩ kids gids sa ta sc tc a b cap dap w' (by omega) (hs3.grown hS.1) (ht3.grown hS.1) (hI3.grown hS.1) (hJ3.grown hS.1)
    dsimp only [itemV] at hc
    rw [HL.out, HM.out, HS.out, HT.out, HD.out] at hc
    exact hc.mono fun e w5 hp => ⟨hp.1, hKeep w5 (hS.1.trans (hp.2.mono hS.1.size))⟩
  have c5 : ∀ w', (Below w3.heap.size w3 w' ∧ w'.cell? ⟨w.heap.size, 0, none⟩ = some (.int .i64 hk) ∧ w'.cell? ⟨w.heap.size, 1, none⟩ = some (.slice sa S sc) ∧ w'.cell? ⟨w.heap.size, 2, none⟩ = some (.slice a L cap) ∧ w'.cell? ⟨w.heap.size + 1, 0, none⟩ = some (.int .i64 gk) ∧ w'.cell? ⟨w.heap.size + 1, 1, none⟩ = some (.slice ta T tc) ∧ w'.cell? ⟨w.heap.size + 1, 2, none⟩ = some (.slice b M dap)) → Calls Try.prog 19 #[.slice pa P pc] w' fun e w5 => (∃ a' c', e = .returned (.slice a' X.length c') ∧ Sps w5 a' c' X) ∧ Below w'.heap.size w' w5 ∧ (Below w3.heap.size w3 w5 ∧ w5.cell? ⟨w.heap.size, 0, none⟩ = some (.int .i64 hk) ∧ w5.cell? ⟨w.heap.size, 1, none⟩ = some (.slice sa S sc) ∧ w5.cell? ⟨w.heap.size, 2, none⟩ = some (.slice a L cap) ∧ w5.cell? ⟨w.heap.size + 1, 0, none⟩ = some (.int .i64 gk) ∧ w5.cell? ⟨w.heap.size + 1, 1, none⟩ = some (.slice ta T tc) ∧ w5.cell? ⟨w.heap.size + 1, 2, none⟩ = some (.slice b M dap)) := fun w' hS => by
    have hc := Spans_any pa l.length pc l w' (hp3.grown hS.1) rfl
    rw [HP.out, HX.out] at hc
    exact hc.mono fun e w5 hp => ⟨hp.1, hp.2, hKeep w5 (hS.1.trans (hp.2.mono hS.1.size))⟩
  have c6 : ∀ w', (Below w3.heap.size w3 w' ∧ w'.cell? ⟨w.heap.size, 0, none⟩ = some (.int .i64 hk) ∧ w'.cell? ⟨w.heap.size, 1, none⟩ = some (.slice sa S sc) ∧ w'.cell? ⟨w.heap.size, 2, none⟩ = some (.slice a L cap) ∧ w'.cell? ⟨w.heap.size + 1, 0, none⟩ = some (.int .i64 gk) ∧ w'.cell? ⟨w.heap.size + 1, 1, none⟩ = some (.slice ta T tc) ∧ w'.cell? ⟨w.heap.size + 1, 2, none⟩ = some (.slice b M dap)) → Calls Try.prog 20 #[.slice pa P pc] w' fun e w5 => (∃ a' c', e = .returned (.slice a' X.length c') ∧ Sps w5 a' c' X) ∧ Below w'.heap.size w' w5 ∧ (Below w3.heap.size w3 w5 ∧ w5.cell? ⟨w.heap.size, 0, none⟩ = some (.int .i64 hk) ∧ w5.cell? ⟨w.heap.size, 1, none⟩ = some (.slice sa S sc) ∧ w5.cell? ⟨w.heap.size, 2, none⟩ = some (.slice a L cap) ∧ w5.cell? ⟨w.heap.size + 1, 0, none⟩ = some (.int .i64 gk) ∧ w5.cell? ⟨w.heap.size + 1, 1, none⟩ = some (.slice ta T tc) ∧ w5.cell? ⟨w.heap.size + 1, 2, none⟩ = some (.slice b M dap)) := fun w' hS => by
    have hc := refSpans_any pa pc l w' (hp3.grown hS.1)
    rw [HP.out, HX.out] at hc
    exact hc.mono fun e w5 hp => ⟨hp.1, hp.2, hKeep w5 (hS.1.trans (hp.2.mono hS.1.size))⟩
  have c7 : ∀ w' a7 k7 a8 k8, (Below w3.heap.size w3 w' ∧ w'.cell? ⟨w.heap.size, 0, none⟩ = some (.int .i64 hk) ∧ w'.cell? ⟨w.heap.size, 1, none⟩ = some (.slice sa S sc) ∧ w'.cell? ⟨w.heap.size, 2, none⟩ = some (.slice a L cap) ∧ w'.cell? ⟨w.heap.size + 1, 0, none⟩ = some (.int .i64 gk) ∧ w'.cell? ⟨w.heap.size + 1, 1, none⟩ = some (.slice ta T tc) ∧ w'.cell? ⟨w.heap.size + 1, 2, none⟩ = some (.slice b M dap)) → Sps w' a7 k7 X → Sps w' a8 k8 X → Calls Try.prog 18 #[.slice a7 X.length k7, .slice a8 X.length k8] w' fun e w5 => e = .returned (.bool true) ∧ (Below w3.heap.size w3 w5 ∧ w5.cell? ⟨w.heap.size, 0, none⟩ = some (.int .i64 hk) ∧ w5.cell? ⟨w.heap.size, 1, none⟩ = some (.slice sa S sc) ∧ w5.cell? ⟨w.heap.size, 2, none⟩ = some (.slice a L cap) ∧ w5.cell? ⟨w.heap.size + 1, 0, none⟩ = some (.int .i64 gk) ∧ w5.cell? ⟨w.heap.size + 1, 1, none⟩ = some (.slice ta T tc) ∧ w5.cell? ⟨w.heap.size + 1, 2, none⟩ = some (.slice b M dap)) := fun w' a7 k7 a8 k8 hS h7 h8 => by
    have hc := sameSpans_any a7 a8 k7 k8 X X w' h7 h8
    simp only [decide_true] at hc
    exact hc.mono fun e w5 hp => ⟨hp.1, hKeep w5 (hS.1.trans (hp.2.mono hS.1.size))⟩
  clear hss hts hI hJ hl hI3 hJ3 hs3 ht3 hp3 hKeep hA3 hB3
  go_wp2_with (fail)
  go_region_held3 (fun w' => (Below w3.heap.size w3 w' ∧ w'.cell? ⟨w.heap.size, 0, none⟩ = some (.int .i64 hk) ∧ w'.cell? ⟨w.heap.size, 1, none⟩ = some (.slice sa S sc) ∧ w'.cell? ⟨w.heap.size, 2, none⟩ = some (.slice a L cap) ∧ w'.cell? ⟨w.heap.size + 1, 0, none⟩ = some (.int .i64 gk) ∧ w'.cell? ⟨w.heap.size + 1, 1, none⟩ = some (.slice ta T tc) ∧ w'.cell? ⟨w.heap.size + 1, 2, none⟩ = some (.slice b M dap))) (assumption)
    (first | (go_at_call 14; (with_reducible refine (c1 _ (by assumption)).mono ?_); rintro e w5 ⟨rfl, hS5⟩) | (go_at_call 15; (with_reducible refine (c2 _ (by assumption)).mono ?_); rintro e w5 ⟨rfl, hS5⟩) | (go_at_call 16; (with_reducible refine (c3 _ (by assumption)).mono ?_); rintro e w5 ⟨rfl, hS5⟩) | (go_at_call 17; (with_reducible refine (c4 _ (by assumption)).mono ?_); rintro e w5 ⟨rfl, hS5⟩) | (go_at_call 19; (with_reducible refine (c5 _ (by assumption)).mono ?_); rintro e w7 ⟨⟨a7, k7, rfl, hs7⟩, hb7, hS7⟩) | (go_at_call 20; (with_reducible refine (c6 _ (by assumption)).mono ?_); rintro e w8 ⟨⟨a8, k8, rfl, hs8⟩, hb8, hS8⟩; have hs78 := hs7.grown hb8) | (go_at_call 18; (with_reducible refine (c7 _ _ _ _ _ (by assumption) hs78 hs8).mono ?_); rintro e w9 ⟨rfl, hS9⟩))
  all_goals
    go_wp2_with (fail)
    exact bodyPost_ret (v := .bool true) (by simp [results, Try.results3, go_sem]; try rfl) rfl ⟨rfl, hbw3.trans (hS9.1.mono hbw3.size)⟩
end Go.Proofs.Ytkdfobnkebkpfaa

/- The row RegexChecks: for every input: any two expressions, any spans: the law answers true and changes nothing that was there; no premise beyond the row's own. -/
namespace Go.Proofs.Ytkdfobnkebkpfaa
open Go.ChangeShapes Go.WideShapes Go.ChangeAt Go.RowKit

set_option maxRecDepth 100000 in
theorem regexChecks_lifted (os : Os) (started : os.Started) (H : Type) (enc : TypeId × Value → H) :
    ReturnsInHanded {} Try.checked os 3 .any (Rows.regexChecksSpec.pre6 enc Try.prog Try.f3 Rows.regexChecksRow.domain false) (Rows.regexChecksSpec.post enc Try.prog Try.f3 false true false false) := by
  refine returnsInHanded_of_change (C := Try.checked) Try.own started (by kernel_rfl) Try.func3
    (ChangeSpec.witness6 (enc := enc) (C := Try.checked) false ⟨#[], #[.agg #[.int .i64 0, .slice none 0 0, .slice none 0 0], .agg #[.int .i64 0, .slice none 0 0, .slice none 0 0], .slice none 0 0], []⟩ 8 (by kernel_rfl) (by kernel_rfl) (by kernel_rfl) (by kernel_rfl)) ?_
  intro W base args ds gs before hval0 hW _ _
  have hval : ∀ (j : Nat) t v, Try.f3.params[j]? = some t → args[j]? = some v → Value.okWide Try.prog W .any base t v := hval0
  have hW' := hW
  obtain ⟨p, q, hA0, hV, rfl, hfz, hnd⟩ := hW
  have hA : DataW.TrodAll enc Try.prog W 0 (fun _ => true) true Try.f3.params.toList args.toList ds p := hA0
  rw [Try.params3] at hA hval
  obtain ⟨v0, v1, v2, d0, d1, d2, p0, p1, p2, rfl, rfl, rfl, h0, h1, h2⟩ := trodAll_three hA
  obtain ⟨h, sa, sc, a, cap, kids, rfl, hs, hI⟩ := open_re (hval 0 25 v0 rfl rfl) h0
  obtain ⟨g, ta, tc, b, dap, gids, rfl, ht, hJ⟩ := open_re (hval 1 25 v1 rfl rfl) h1
  obtain ⟨pa, pc, l, rfl, hl⟩ := open_sps (hval 2 22 v2 rfl rfl) h2
  refine (regexChecks_any h g kids gids sa ta sc tc a b cap dap pa pc l W hs ht hI hJ hl).mono fun e W' ⟨he, hw⟩ => ?_
  subst he
  exact ⟨_, rfl, law_post hW' rfl rfl (by kernel_rfl) (by rw [Try.params3]; intro t ht; simp at ht; rcases ht with rfl | rfl; exact ⟨by kernel_rfl, of_decide_eq_true (by kernel_rfl)⟩; exact ⟨by kernel_rfl, of_decide_eq_true (by kernel_rfl)⟩) hw⟩

theorem regexChecks_holds : Rows.RegexChecksSaid :=
  OpenClaim.holds_of_wide 3 Try.f3 rfl rfl rfl rfl rfl rfl rfl ⟨rfl, rfl, rfl, rfl, rfl⟩ rfl rfl rfl rfl rfl (by kernel_rfl) Try.func3 (by kernel_rfl)
    (of_decide_eq_true (by kernel_rfl)) (by unfold Func.isWrapper; first | (rw [if_pos (by decide +kernel)]; kernel_rfl) | (rw [if_neg (by decide +kernel)]; exact ⟨rfl, rfl⟩))
    (fun os started H enc _ => regexChecks_lifted os started H enc)
end Go.Proofs.Ytkdfobnkebkpfaa
