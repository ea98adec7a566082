/- The law WireChecks. -/
import Derived.Test.YtahibjiiaocjkaaNSame
import Derived.Test.YtahibjiiaocjkaaSize
import Derived.Test.YtahibjiiaocjkaaLive
import Derived.Deep.RegionHeld3
namespace Go.Proofs.Ytahibjiiaocjkaa
open Go.RowKit

set_option maxRecDepth 100000 in
set_option maxHeartbeats 2000000 in
theorem wireChecks_any (h g : Hd) (kids gids : Fo) (a b : Option Addr) (cap dap : Nat) (w : World) (hI : Items w a cap kids) (hJ : Items w b dap gids) :
    Calls Try.prog 3 #[itemV h a kids.len cap, itemV g b gids.len dap] w fun e w' => e = .returned (.bool true) ∧ Below w.heap.size w w' := by
  obtain ⟨hk, hn, hs⟩ := h
  obtain ⟨gk, gn, gs⟩ := g
  obtain ⟨L, HL⟩ : ∃ L, Hid (kids.len = L) := ⟨_, Lib.hid rfl⟩
  obtain ⟨M, HM⟩ : ∃ L, Hid (gids.len = L) := ⟨_, Lib.hid rfl⟩
  rw [HL.out, HM.out]
  have hA0 := (Blk.new w 24 #[.int .i64 hk, .int .i64 hn, .string hs, .slice a L cap]).alloc (.cells #[.int .i64 gk, .int .i64 gn, .string gs, .slice b M dap] 24)
  have hB0 := Blk.new (w.alloc (.cells #[.int .i64 hk, .int .i64 hn, .string hs, .slice a L cap] 24)) 24 #[.int .i64 gk, .int .i64 gn, .string gs, .slice b M dap]
  rw [World.size_alloc] at hB0
  have hb0 : Below w.heap.size w ((w.alloc (.cells #[.int .i64 hk, .int .i64 hn, .string hs, .slice a L cap] 24)).alloc (.cells #[.int .i64 gk, .int .i64 gn, .string gs, .slice b M dap] 24)) := ((Below.refl w.heap.size w).alloc (Nat.le_refl _) _).alloc (by simp) _
  go_enter Try.func3, Try.ntmps3
  go_wp2_with (fail)
  refine (live_any _).mono ?_
  rintro e w1 ⟨rfl, hb1⟩
  have hA1 := hA0.below hb1 hA0.lt
  have hB1 := hB0.below hb1 hB0.lt
  have hbw1 : Below w.heap.size w w1 := hb0.trans (hb1.mono hb0.size)
  clear hA0 hB0 hb0 hb1
  have hl1 := hA1.lt
  have hl2 := hB1.lt
  have x0 := hA1.cell 0
  have x1 := hA1.cell 1
  have x2 := hA1.cell 2
  have x3 := hA1.cell 3
  have y0 := hB1.cell 0
  have y1 := hB1.cell 1
  have y2 := hB1.cell 2
  have y3 := hB1.cell 3
  simp only [List.getElem?_cons_zero, List.getElem?_cons_succ] at x0 x1 x2 x3 y0 y1 y2 y3
  have hR := Blk.new w1 24 #[.int .i64 hk, .int .i64 hn, .string hs, .slice a L cap, .int .i64 gk, .int .i64 gn, .string gs, .slice b M dap]
  have hbR : Below w1.heap.size w1 (w1.alloc (.cells #[.int .i64 hk, .int .i64 hn, .string hs, .slice a L cap, .int .i64 gk, .int .i64 gn, .string gs, .slice b M dap] 24)) := (Below.refl _ w1).alloc (Nat.le_refl _) _
  have hIr := (hI.grown hbw1).grown hbR
  have hJr := (hJ.grown hbw1).grown hbR
  have hIt : Items (w1.alloc (.cells #[.int .i64 hk, .int .i64 hn, .string hs, .slice a L cap, .int .i64 gk, .int .i64 gn, .string gs, .slice b M dap] 24)) (some ⟨w1.heap.size, 0, none⟩) 2 (.cons ⟨hk, hn, hs⟩ kids (.cons ⟨gk, gn, gs⟩ gids .nil)) :=
    ⟨by simp [Fo.len], by omega, fun e => (by cases e), fun _ => ⟨_, _, rfl, hR.cell 0, hR.cell 1, hR.cell 2, ⟨a, cap, by rw [HL.out]; exact hR.cell 3, hIr.le, hIr.max, hIr.nil_, hIr.at_⟩, hR.cell 4, hR.cell 5, hR.cell 6, ⟨b, dap, by rw [HM.out]; exact hR.cell 7, hJr.le, hJr.max, hJr.nil_, hJr.at_⟩, trivial⟩⟩
  have hbig := big_any _ _ _ _ hIt
  obtain ⟨B, HB⟩ : ∃ B, Hid (bigB (.cons ⟨hk, hn, hs⟩ kids (.cons ⟨gk, gn, gs⟩ gids .nil)) = B) := ⟨_, Lib.hid rfl⟩
  rw [HB.out] at hbig
  simp only [Fo.len, Nat.zero_add, Nat.reduceAdd] at hbig
  go_wp2_with (fail)
  refine hbig.mono ?_
  rintro e w3 ⟨rfl, hb3⟩
  have hb13 : Below w1.heap.size w1 w3 := hbR.trans (hb3.mono hbR.size)
  have hA3 := hA1.below hb13 hA1.lt
  have hB3 := hB1.below hb13 hB1.lt
  have hbw3 : Below w.heap.size w w3 := hbw1.trans (hb13.mono hbw1.size)
  have hI3 := hI.grown hbw3
  have hJ3 := hJ.grown hbw3
  clear hA1 hB1 hR hbR hIr hJr hIt hbig hb3 hb13 hbw1 x0 x1 x2 x3 y0 y1 y2 y3 hl1 hl2
  cases B
  case true =>
    go_wp2_with (fail)
    exact bodyPost_ret (v := .bool true) (by simp [results, Try.results3, go_sem]; try rfl) rfl ⟨rfl, hbw3⟩
  have hsz : kids.size + 1 ≤ 2000 ∧ gids.size + 1 ≤ 2000 := by
    have := HB.out
    simp [bigB] at this
    omega
  obtain ⟨hz1, hz2⟩ := hsz
  have hKeep : ∀ w', Below w3.heap.size w3 w' → (Below w3.heap.size w3 w' ∧ w'.cell? ⟨w.heap.size, 0, none⟩ = some (.int .i64 hk) ∧ w'.cell? ⟨w.heap.size, 1, none⟩ = some (.int .i64 hn) ∧ w'.cell? ⟨w.heap.size, 2, none⟩ = some (.string hs) ∧ w'.cell? ⟨w.heap.size, 3, none⟩ = some (.slice a L cap) ∧ w'.cell? ⟨w.heap.size + 1, 0, none⟩ = some (.int .i64 gk) ∧ w'.cell? ⟨w.heap.size + 1, 1, none⟩ = some (.int .i64 gn) ∧ w'.cell? ⟨w.heap.size + 1, 2, none⟩ = some (.string gs) ∧ w'.cell? ⟨w.heap.size + 1, 3, none⟩ = some (.slice b M dap)) := fun w' hb => by
    have k1 := hA3.below hb hA3.lt
    have k2 := hB3.below hb hB3.lt
    exact ⟨hb, k1.cell 0, k1.cell 1, k1.cell 2, k1.cell 3, k2.cell 0, k2.cell 1, k2.cell 2, k2.cell 3⟩
  have hS0 := hKeep w3.drew ((Below.refl _ w3).drew)
  obtain ⟨E, HE⟩ : ∃ E : Int, Hid (checkE (Fo.pre 1 (.cons ⟨hk, hn, hs⟩ kids .nil)) = E) := ⟨_, Lib.hid rfl⟩
  obtain ⟨D, HD⟩ : ∃ D : Bool, Hid ((hdB ⟨hk, hn, hs⟩ ⟨gk, gn, gs⟩ L M && sameB kids gids) = D) := ⟨_, Lib.hid rfl⟩
  obtain ⟨Z, HZ⟩ : ∃ Z : Int, Hid (((kids.size : Int) + 1) = Z) := ⟨_, Lib.hid rfl⟩
  have c1 : ∀ w', (Below w3.heap.size w3 w' ∧ w'.cell? ⟨w.heap.size, 0, none⟩ = some (.int .i64 hk) ∧ w'.cell? ⟨w.heap.size, 1, none⟩ = some (.int .i64 hn) ∧ w'.cell? ⟨w.heap.size, 2, none⟩ = some (.string hs) ∧ w'.cell? ⟨w.heap.size, 3, none⟩ = some (.slice a L cap) ∧ w'.cell? ⟨w.heap.size + 1, 0, none⟩ = some (.int .i64 gk) ∧ w'.cell? ⟨w.heap.size + 1, 1, none⟩ = some (.int .i64 gn) ∧ w'.cell? ⟨w.heap.size + 1, 2, none⟩ = some (.string gs) ∧ w'.cell? ⟨w.heap.size + 1, 3, none⟩ = some (.slice b M dap)) → Calls Try.prog 14 #[itemV ⟨hk, hn, hs⟩ a L cap] w' fun e w5 => e = .returned (.int .i64 E) ∧ (Below w3.heap.size w3 w5 ∧ w5.cell? ⟨w.heap.size, 0, none⟩ = some (.int .i64 hk) ∧ w5.cell? ⟨w.heap.size, 1, none⟩ = some (.int .i64 hn) ∧ w5.cell? ⟨w.heap.size, 2, none⟩ = some (.string hs) ∧ w5.cell? ⟨w.heap.size, 3, none⟩ = some (.slice a L cap) ∧ w5.cell? ⟨w.heap.size + 1, 0, none⟩ = some (.int .i64 gk) ∧ w5.cell? ⟨w.heap.size + 1, 1, none⟩ = some (.int .i64 gn) ∧ w5.cell? ⟨w.heap.size + 1, 2, none⟩ = some (.string gs) ∧ w5.cell? ⟨w.heap.size + 1, 3, none⟩ = some (.slice b M dap)) := fun w' hS => by
    have hc := wcheck_any ⟨hk, hn, hs⟩ kids a cap w' (hI3.grown hS.1) (by omega)
    rw [HL.out, HE.out] at hc
    exact hc.mono fun e w5 hp => ⟨hp.1, hKeep w5 (hS.1.trans (hp.2.mono hS.1.size))⟩
  have c2 : ∀ w', (Below w3.heap.size w3 w' ∧ w'.cell? ⟨w.heap.size, 0, none⟩ = some (.int .i64 hk) ∧ w'.cell? ⟨w.heap.size, 1, none⟩ = some (.int .i64 hn) ∧ w'.cell? ⟨w.heap.size, 2, none⟩ = some (.string hs) ∧ w'.cell? ⟨w.heap.size, 3, none⟩ = some (.slice a L cap) ∧ w'.cell? ⟨w.heap.size + 1, 0, none⟩ = some (.int .i64 gk) ∧ w'.cell? ⟨w.heap.size + 1, 1, none⟩ = some (.int .i64 gn) ∧ w'.cell? ⟨w.heap.size + 1, 2, none⟩ = some (.string gs) ∧ w'.cell? ⟨w.heap.size + 1, 3, none⟩ = some (.slice b M dap)) → Calls Try.prog 15 #[itemV ⟨hk, hn, hs⟩ a L cap] w' fun e w5 => e = .returned (.int .i64 E) ∧ (Below w3.heap.size w3 w5 ∧ w5.cell? ⟨w.heap.size, 0, none⟩ = some (.int .i64 hk) ∧ w5.cell? ⟨w.heap.size, 1, none⟩ = some (.int .i64 hn) ∧ w5.cell? ⟨w.heap.size, 2, none⟩ = some (.string hs) ∧ w5.cell? ⟨w.heap.size, 3, none⟩ = some (.slice a L cap) ∧ w5.cell? ⟨w.heap.size + 1, 0, none⟩ = some (.int .i64 gk) ∧ w5.cell? ⟨w.heap.size + 1, 1, none⟩ = some (.int .i64 gn) ∧ w5.cell? ⟨w.heap.size + 1, 2, none⟩ = some (.string gs) ∧ w5.cell? ⟨w.heap.size + 1, 3, none⟩ = some (.slice b M dap)) := fun w' hS => by
    have hc := rcheck_any ⟨hk, hn, hs⟩ kids a cap w' (hI3.grown hS.1) (by omega)
    rw [HL.out, HE.out] at hc
    exact hc.mono fun e w5 hp => ⟨hp.1, hKeep w5 (hS.1.trans (hp.2.mono hS.1.size))⟩
  have c3 : ∀ w', (Below w3.heap.size w3 w' ∧ w'.cell? ⟨w.heap.size, 0, none⟩ = some (.int .i64 hk) ∧ w'.cell? ⟨w.heap.size, 1, none⟩ = some (.int .i64 hn) ∧ w'.cell? ⟨w.heap.size, 2, none⟩ = some (.string hs) ∧ w'.cell? ⟨w.heap.size, 3, none⟩ = some (.slice a L cap) ∧ w'.cell? ⟨w.heap.size + 1, 0, none⟩ = some (.int .i64 gk) ∧ w'.cell? ⟨w.heap.size + 1, 1, none⟩ = some (.int .i64 gn) ∧ w'.cell? ⟨w.heap.size + 1, 2, none⟩ = some (.string gs) ∧ w'.cell? ⟨w.heap.size + 1, 3, none⟩ = some (.slice b M dap)) → Calls Try.prog 16 #[itemV ⟨hk, hn, hs⟩ a L cap, itemV ⟨gk, gn, gs⟩ b M dap] w' fun e w5 => e = .returned (.bool D) ∧ (Below w3.heap.size w3 w5 ∧ w5.cell? ⟨w.heap.size, 0, none⟩ = some (.int .i64 hk) ∧ w5.cell? ⟨w.heap.size, 1, none⟩ = some (.int .i64 hn) ∧ w5.cell? ⟨w.heap.size, 2, none⟩ = some (.string hs) ∧ w5.cell? ⟨w.heap.size, 3, none⟩ = some (.slice a L cap) ∧ w5.cell? ⟨w.heap.size + 1, 0, none⟩ = some (.int .i64 gk) ∧ w5.cell? ⟨w.heap.size + 1, 1, none⟩ = some (.int .i64 gn) ∧ w5.cell? ⟨w.heap.size + 1, 2, none⟩ = some (.string gs) ∧ w5.cell? ⟨w.heap.size + 1, 3, none⟩ = some (.slice b M dap)) := fun w' hS => by
    have hc := wsame_any ⟨hk, hn, hs⟩ ⟨gk, gn, gs⟩ kids gids a b cap dap w' (by omega) (hI3.grown hS.1) (hJ3.grown hS.1)
    rw [HL.out, HM.out, HD.out] at hc
    exact hc.mono fun e w5 hp => ⟨hp.1, hKeep w5 (hS.1.trans (hp.2.mono hS.1.size))⟩
  have c4 : ∀ w', (Below w3.heap.size w3 w' ∧ w'.cell? ⟨w.heap.size, 0, none⟩ = some (.int .i64 hk) ∧ w'.cell? ⟨w.heap.size, 1, none⟩ = some (.int .i64 hn) ∧ w'.cell? ⟨w.heap.size, 2, none⟩ = some (.string hs) ∧ w'.cell? ⟨w.heap.size, 3, none⟩ = some (.slice a L cap) ∧ w'.cell? ⟨w.heap.size + 1, 0, none⟩ = some (.int .i64 gk) ∧ w'.cell? ⟨w.heap.size + 1, 1, none⟩ = some (.int .i64 gn) ∧ w'.cell? ⟨w.heap.size + 1, 2, none⟩ = some (.string gs) ∧ w'.cell? ⟨w.heap.size + 1, 3, none⟩ = some (.slice b M dap)) → Calls Try.prog 17 #[itemV ⟨hk, hn, hs⟩ a L cap, itemV ⟨gk, gn, gs⟩ b M dap] w' fun e w5 => e = .returned (.bool D) ∧ (Below w3.heap.size w3 w5 ∧ w5.cell? ⟨w.heap.size, 0, none⟩ = some (.int .i64 hk) ∧ w5.cell? ⟨w.heap.size, 1, none⟩ = some (.int .i64 hn) ∧ w5.cell? ⟨w.heap.size, 2, none⟩ = some (.string hs) ∧ w5.cell? ⟨w.heap.size, 3, none⟩ = some (.slice a L cap) ∧ w5.cell? ⟨w.heap.size + 1, 0, none⟩ = some (.int .i64 gk) ∧ w5.cell? ⟨w.heap.size + 1, 1, none⟩ = some (.int .i64 gn) ∧ w5.cell? ⟨w.heap.size + 1, 2, none⟩ = some (.string gs) ∧ w5.cell? ⟨w.heap.size + 1, 3, none⟩ = some (.slice b M dap)) := fun w' hS => by
    have hc := rsame_any 2001 ⟨hk, hn, hs⟩ ⟨gk, gn, gs⟩ kids gids a b cap dap w' (by omega) (hI3.grown hS.1) (hJ3.grown hS.1)
    rw [HL.out, HM.out, HD.out] at hc
    exact hc.mono fun e w5 hp => ⟨hp.1, hKeep w5 (hS.1.trans (hp.2.mono hS.1.size))⟩
  have c5 : ∀ w', (Below w3.heap.size w3 w' ∧ w'.cell? ⟨w.heap.size, 0, none⟩ = some (.int .i64 hk) ∧ w'.cell? ⟨w.heap.size, 1, none⟩ = some (.int .i64 hn) ∧ w'.cell? ⟨w.heap.size, 2, none⟩ = some (.string hs) ∧ w'.cell? ⟨w.heap.size, 3, none⟩ = some (.slice a L cap) ∧ w'.cell? ⟨w.heap.size + 1, 0, none⟩ = some (.int .i64 gk) ∧ w'.cell? ⟨w.heap.size + 1, 1, none⟩ = some (.int .i64 gn) ∧ w'.cell? ⟨w.heap.size + 1, 2, none⟩ = some (.string gs) ∧ w'.cell? ⟨w.heap.size + 1, 3, none⟩ = some (.slice b M dap)) → Calls Try.prog 18 #[itemV ⟨hk, hn, hs⟩ a L cap] w' fun e w5 => e = .returned (.int .i64 Z) ∧ (Below w3.heap.size w3 w5 ∧ w5.cell? ⟨w.heap.size, 0, none⟩ = some (.int .i64 hk) ∧ w5.cell? ⟨w.heap.size, 1, none⟩ = some (.int .i64 hn) ∧ w5.cell? ⟨w.heap.size, 2, none⟩ = some (.string hs) ∧ w5.cell? ⟨w.heap.size, 3, none⟩ = some (.slice a L cap) ∧ w5.cell? ⟨w.heap.size + 1, 0, none⟩ = some (.int .i64 gk) ∧ w5.cell? ⟨w.heap.size + 1, 1, none⟩ = some (.int .i64 gn) ∧ w5.cell? ⟨w.heap.size + 1, 2, none⟩ = some (.string gs) ∧ w5.cell? ⟨w.heap.size + 1, 3, none⟩ = some (.slice b M dap)) := fun w' hS => by
    have hc := wsize_any ⟨hk, hn, hs⟩ kids a cap w' (hI3.grown hS.1) (by omega)
    rw [HL.out, HZ.out] at hc
    exact hc.mono fun e w5 hp => ⟨hp.1, hKeep w5 (hS.1.trans (hp.2.mono hS.1.size))⟩
  have c6 : ∀ w', (Below w3.heap.size w3 w' ∧ w'.cell? ⟨w.heap.size, 0, none⟩ = some (.int .i64 hk) ∧ w'.cell? ⟨w.heap.size, 1, none⟩ = some (.int .i64 hn) ∧ w'.cell? ⟨w.heap.size, 2, none⟩ = some (.string hs) ∧ w'.cell? ⟨w.heap.size, 3, none⟩ = some (.slice a L cap) ∧ w'.cell? ⟨w.heap.size + 1, 0, none⟩ = some (.int .i64 gk) ∧ w'.cell? ⟨w.heap.size + 1, 1, none⟩ = some (.int .i64 gn) ∧ w'.cell? ⟨w.heap.size + 1, 2, none⟩ = some (.string gs) ∧ w'.cell? ⟨w.heap.size + 1, 3, none⟩ = some (.slice b M dap)) → Calls Try.prog 19 #[itemV ⟨hk, hn, hs⟩ a L cap] w' fun e w5 => e = .returned (.int .i64 Z) ∧ (Below w3.heap.size w3 w5 ∧ w5.cell? ⟨w.heap.size, 0, none⟩ = some (.int .i64 hk) ∧ w5.cell? ⟨w.heap.size, 1, none⟩ = some (.int .i64 hn) ∧ w5.cell? ⟨w.heap.size, 2, none⟩ = some (.string hs) ∧ w5.cell? ⟨w.heap.size, 3, none⟩ = some (.slice a L cap) ∧ w5.cell? ⟨w.heap.size + 1, 0, none⟩ = some (.int .i64 gk) ∧ w5.cell? ⟨w.heap.size + 1, 1, none⟩ = some (.int .i64 gn) ∧ w5.cell? ⟨w.heap.size + 1, 2, none⟩ = some (.string gs) ∧ w5.cell? ⟨w.heap.size + 1, 3, none⟩ = some (.slice b M dap)) := fun w' hS => by
    have hc := rsize_any 2001 ⟨hk, hn, hs⟩ kids a cap w' (by omega) (by omega) (hI3.grown hS.1)
    rw [HL.out, HZ.out] at hc
    exact hc.mono fun e w5 hp => ⟨hp.1, hKeep w5 (hS.1.trans (hp.2.mono hS.1.size))⟩
  go_wp2_with (fail)
  go_region_held3 (fun w' => Below w3.heap.size w3 w' ∧ w'.cell? ⟨w.heap.size, 0, none⟩ = some (.int .i64 hk) ∧ w'.cell? ⟨w.heap.size, 1, none⟩ = some (.int .i64 hn) ∧ w'.cell? ⟨w.heap.size, 2, none⟩ = some (.string hs) ∧ w'.cell? ⟨w.heap.size, 3, none⟩ = some (.slice a L cap) ∧ w'.cell? ⟨w.heap.size + 1, 0, none⟩ = some (.int .i64 gk) ∧ w'.cell? ⟨w.heap.size + 1, 1, none⟩ = some (.int .i64 gn) ∧ w'.cell? ⟨w.heap.size + 1, 2, none⟩ = some (.string gs) ∧ w'.cell? ⟨w.heap.size + 1, 3, none⟩ = some (.slice b M dap)) (assumption)
    (first | (go_at_call 14; (with_reducible refine (c1 _ (by assumption)).mono ?_); rintro e w5 ⟨rfl, hS5⟩) | (go_at_call 15; (with_reducible refine (c2 _ (by assumption)).mono ?_); rintro e w5 ⟨rfl, hS5⟩) | (go_at_call 16; (with_reducible refine (c3 _ (by assumption)).mono ?_); rintro e w5 ⟨rfl, hS5⟩) | (go_at_call 17; (with_reducible refine (c4 _ (by assumption)).mono ?_); rintro e w5 ⟨rfl, hS5⟩) | (go_at_call 18; (with_reducible refine (c5 _ (by assumption)).mono ?_); rintro e w5 ⟨rfl, hS5⟩) | (go_at_call 19; (with_reducible refine (c6 _ (by assumption)).mono ?_); rintro e w5 ⟨rfl, hS5⟩))
  all_goals
    go_wp2_with (fail)
    exact bodyPost_ret (v := .bool true) (by simp [results, Try.results3, go_sem]; try rfl) rfl ⟨rfl, hbw3.trans (hS5.1.mono hbw3.size)⟩
end Go.Proofs.Ytahibjiiaocjkaa
