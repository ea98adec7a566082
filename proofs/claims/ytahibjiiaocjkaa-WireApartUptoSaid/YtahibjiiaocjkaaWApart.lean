/- The law WireApart. -/
import Derived.Test.YtahibjiiaocjkaaNSame
import Derived.Test.YtahibjiiaocjkaaREncode
import Derived.Test.YtahibjiiaocjkaaWSeals
import Derived.Deep.RegionHeld3
namespace Go.Proofs.Ytahibjiiaocjkaa
open Go.RowKit

set_option maxRecDepth 100000 in
set_option maxHeartbeats 2000000 in
theorem wireApart_any (h g : Hd) (kids gids : Fo) (a b : Option Addr) (cap dap : Nat) (w : World) (hI : Items w a cap kids) (hJ : Items w b dap gids) {N1 N2 : Nat} (hF : Fits h kids N1) (gF : Fits g gids N2) (hN1 : N1 ≤ 1048576) (hN2 : N2 ≤ 1048576) :
    Calls Try.prog 10 #[itemV h a kids.len cap, itemV g b gids.len dap] w fun e w' => e = .returned (.bool true) ∧ Below w.heap.size w w' := by
  have hwt1 := wt_of hF hN1
  have hwt2 := wt_of gF hN2
  have hft1 := fit_of hF
  have hft2 := fit_of gF
  clear hF gF hN1 hN2
  obtain ⟨hk, hn, hs⟩ := h
  obtain ⟨gk, gn, gs⟩ := g
  obtain ⟨L, HL⟩ : ∃ L, Hid (kids.len = L) := ⟨_, Lib.hid rfl⟩
  obtain ⟨M, HM⟩ : ∃ L, Hid (gids.len = L) := ⟨_, Lib.hid rfl⟩
  rw [HL.out, HM.out]
  have hA0 := (Blk.new w 24 #[.int .i64 hk, .int .i64 hn, .string hs, .slice a L cap]).alloc (.cells #[.int .i64 gk, .int .i64 gn, .string gs, .slice b M dap] 24)
  have hB0 := Blk.new (w.alloc (.cells #[.int .i64 hk, .int .i64 hn, .string hs, .slice a L cap] 24)) 24 #[.int .i64 gk, .int .i64 gn, .string gs, .slice b M dap]
  rw [World.size_alloc] at hB0
  have hb0 : Below w.heap.size w ((w.alloc (.cells #[.int .i64 hk, .int .i64 hn, .string hs, .slice a L cap] 24)).alloc (.cells #[.int .i64 gk, .int .i64 gn, .string gs, .slice b M dap] 24)) := ((Below.refl w.heap.size w).alloc (Nat.le_refl _) _).alloc (by simp) _
  go_enter Try.func10, Try.ntmps10
  go_wp2_with (fail)
  refine (live_any _).mono ?_
  rintro e w1 ⟨rfl, hb1⟩
  have hA1 := hA0.below hb1 hA0.lt
  have hB1 := hB0.below hb1 hB0.lt
  have hbw1 : Below w.heap.size w w1 := hb0.trans (hb1.mono hb0.size)
  clear hA0 hB0 hb0 hb1
  have hl1 := hA1.lt
  have hl2 := hB1.lt
  have x0 := hA1.cell 0
  have x1 := hA1.cell 1
  have x2 := hA1.cell 2
  have x3 := hA1.cell 3
  have y0 := hB1.cell 0
  have y1 := hB1.cell 1
  have y2 := hB1.cell 2
  have y3 := hB1.cell 3
  simp only [List.getElem?_cons_zero, List.getElem?_cons_succ] at x0 x1 x2 x3 y0 y1 y2 y3
  have hR := Blk.new w1 24 #[.int .i64 hk, .int .i64 hn, .string hs, .slice a L cap, .int .i64 gk, .int .i64 gn, .string gs, .slice b M dap]
  have hbR : Below w1.heap.size w1 (w1.alloc (.cells #[.int .i64 hk, .int .i64 hn, .string hs, .slice a L cap, .int .i64 gk, .int .i64 gn, .string gs, .slice b M dap] 24)) := (Below.refl _ w1).alloc (Nat.le_refl _) _
  have hIr := (hI.grown hbw1).grown hbR
  have hJr := (hJ.grown hbw1).grown hbR
  have hIt : Items (w1.alloc (.cells #[.int .i64 hk, .int .i64 hn, .string hs, .slice a L cap, .int .i64 gk, .int .i64 gn, .string gs, .slice b M dap] 24)) (some ⟨w1.heap.size, 0, none⟩) 2 (.cons ⟨hk, hn, hs⟩ kids (.cons ⟨gk, gn, gs⟩ gids .nil)) :=
    ⟨by simp [Fo.len], by omega, fun e => (by cases e), fun _ => ⟨_, _, rfl, hR.cell 0, hR.cell 1, hR.cell 2, ⟨a, cap, by rw [HL.out]; exact hR.cell 3, hIr.le, hIr.max, hIr.nil_, hIr.at_⟩, hR.cell 4, hR.cell 5, hR.cell 6, ⟨b, dap, by rw [HM.out]; exact hR.cell 7, hJr.le, hJr.max, hJr.nil_, hJr.at_⟩, trivial⟩⟩
  have hbig := big_any _ _ _ _ hIt
  obtain ⟨B, HB⟩ : ∃ B, Hid (bigB (.cons ⟨hk, hn, hs⟩ kids (.cons ⟨gk, gn, gs⟩ gids .nil)) = B) := ⟨_, Lib.hid rfl⟩
  rw [HB.out] at hbig
  simp only [Fo.len, Nat.zero_add, Nat.reduceAdd] at hbig
  go_wp2_with (fail)
  refine hbig.mono ?_
  rintro e w3 ⟨rfl, hb3⟩
  have hb13 : Below w1.heap.size w1 w3 := hbR.trans (hb3.mono hbR.size)
  have hA3 := hA1.below hb13 hA1.lt
  have hB3 := hB1.below hb13 hB1.lt
  have hbw3 : Below w.heap.size w w3 := hbw1.trans (hb13.mono hbw1.size)
  have hI3 := hI.grown hbw3
  have hJ3 := hJ.grown hbw3
  clear hA1 hB1 hR hbR hIr hJr hIt hbig hb3 hb13 hbw1 x0 x1 x2 x3 y0 y1 y2 y3 hl1 hl2
  cases B
  case true =>
    go_wp2_with (fail)
    exact bodyPost_ret (v := .bool true) (by simp [results, Try.results10, go_sem]; try rfl) rfl ⟨rfl, hbw3⟩
  have hsz : kids.size + 1 ≤ 2000 ∧ gids.size + 1 ≤ 2000 := by
    have := HB.out
    simp [bigB] at this
    omega
  obtain ⟨hz1, hz2⟩ := hsz
  obtain ⟨E, HE⟩ : ∃ E : Int, Hid (checkE (Fo.pre 1 (.cons ⟨hk, hn, hs⟩ kids .nil)) = E) := ⟨_, Lib.hid rfl⟩
  obtain ⟨F, HF⟩ : ∃ E : Int, Hid (checkE (Fo.pre 1 (.cons ⟨gk, gn, gs⟩ gids .nil)) = E) := ⟨_, Lib.hid rfl⟩
  obtain ⟨X, HX⟩ : ∃ E, Hid (encB (Fo.pre 1 (.cons ⟨hk, hn, hs⟩ kids .nil)) = E) := ⟨_, Lib.hid rfl⟩
  obtain ⟨Y, HY⟩ : ∃ E, Hid (encB (Fo.pre 1 (.cons ⟨gk, gn, gs⟩ gids .nil)) = E) := ⟨_, Lib.hid rfl⟩
  obtain ⟨LX, HLX⟩ : ∃ E, Hid (X.length = E) := ⟨_, Lib.hid rfl⟩
  obtain ⟨LY, HLY⟩ : ∃ E, Hid (Y.length = E) := ⟨_, Lib.hid rfl⟩
  have Hft := Lib.hid (And.intro hft1 hft2)
  have hcx := wencode_any ⟨hk, hn, hs⟩ kids a cap w3 hI3 (by omega) hwt1
  rw [HX.out, HLX.out, HE.out, HL.out] at hcx
  have x0 := hA3.cell 0
  have x1 := hA3.cell 1
  have x2 := hA3.cell 2
  have x3 := hA3.cell 3
  simp only [List.getElem?_cons_zero, List.getElem?_cons_succ] at x0 x1 x2 x3
  clear hft1 hft2 hwt1
  go_wp2_with (fail)
  refine hcx.mono ?_
  rintro e w4 ⟨a4, c4, rfl, ho4, hb4⟩
  have hA4 := hA3.below hb4 hA3.lt
  have hB4 := hB3.below hb4 hB3.lt
  have hbw4 : Below w.heap.size w w4 := hbw3.trans (hb4.mono hbw3.size)
  have hI4 := hI.grown hbw4
  have hJ4 := hJ.grown hbw4
  have hx4 := ho4.bytes
  have hcy := wencode_any ⟨gk, gn, gs⟩ gids b dap w4 hJ4 (by omega) hwt2
  rw [HY.out, HLY.out, HF.out, HM.out] at hcy
  have y0 := hB4.cell 0
  have y1 := hB4.cell 1
  have y2 := hB4.cell 2
  have y3 := hB4.cell 3
  simp only [List.getElem?_cons_zero, List.getElem?_cons_succ] at y0 y1 y2 y3
  clear x0 x1 x2 x3 hcx hA3 hB3 hI3 hJ3 ho4 hwt2
  go_wp2_with (fail)
  refine hcy.mono ?_
  rintro e w5 ⟨a5, c5, rfl, ho5, hb5⟩
  have hA5 := hA4.below hb5 hA4.lt
  have hB5 := hB4.below hb5 hB4.lt
  have hbw5 : Below w.heap.size w w5 := hbw4.trans (hb5.mono hbw4.size)
  have hI5 := hI.grown hbw5
  have hJ5 := hJ.grown hbw5
  have hx5 := hx4.grown hb5
  have hy5 := ho5.bytes
  clear y0 y1 y2 y3 hcy hA4 hB4 hI4 hJ4 ho5 hx4 hb4 hb5 hbw4 hbw3 hI hJ
  by_cases hE : E = 0
  case neg =>
    have hX : X = [] := by rw [← HX.out]; exact encB_bad (by rw [HE.out]; exact hE)
    obtain rfl : LX = 0 := by rw [← HLX.out, hX]; rfl
    have hE1 : (E != 0) = true := by simpa using hE
    have hE2 : (E == 0) = false := by simpa using hE
    by_cases hF : F = 0
    · have hF1 : (F != 0) = false := by simp [hF]
      have hF2 : (F == 0) = true := by simp [hF]
      clear hE hF hX
      go_wp2_with (fail)
      exact bodyPost_ret (v := .bool true) (by simp [results, Try.results10, go_sem]; try rfl) rfl ⟨rfl, hbw5⟩
    · have hY : Y = [] := by rw [← HY.out]; exact encB_bad (by rw [HF.out]; exact hF)
      obtain rfl : LY = 0 := by rw [← HLY.out, hY]; rfl
      have hF1 : (F != 0) = true := by simpa using hF
      have hF2 : (F == 0) = false := by simpa using hF
      clear hE hF hX hY
      go_wp2_with (fail)
      exact bodyPost_ret (v := .bool true) (by simp [results, Try.results10, go_sem]; try rfl) rfl ⟨rfl, hbw5⟩
  have hE1 : (E != 0) = false := by simp [hE]
  have hE2 : (E == 0) = true := by simp [hE]
  have HE0 := Lib.hid hE
  clear hE
  by_cases hF : F = 0
  case neg =>
    have hY : Y = [] := by rw [← HY.out]; exact encB_bad (by rw [HF.out]; exact hF)
    obtain rfl : LY = 0 := by rw [← HLY.out, hY]; rfl
    have hF1 : (F != 0) = true := by simpa using hF
    have hF2 : (F == 0) = false := by simpa using hF
    clear hF hY
    go_wp2_with (fail)
    exact bodyPost_ret (v := .bool true) (by simp [results, Try.results10, go_sem]; try rfl) rfl ⟨rfl, hbw5⟩
  have hF1 : (F != 0) = false := by simp [hF]
  have hF2 : (F == 0) = true := by simp [hF]
  have HF0 := Lib.hid hF
  clear hF
  have hKeep : ∀ w', Below w5.heap.size w5 w' → (Below w5.heap.size w5 w' ∧ w'.cell? ⟨w.heap.size, 0, none⟩ = some (.int .i64 hk) ∧ w'.cell? ⟨w.heap.size, 1, none⟩ = some (.int .i64 hn) ∧ w'.cell? ⟨w.heap.size, 2, none⟩ = some (.string hs) ∧ w'.cell? ⟨w.heap.size, 3, none⟩ = some (.slice a L cap) ∧ w'.cell? ⟨w.heap.size + 1, 0, none⟩ = some (.int .i64 gk) ∧ w'.cell? ⟨w.heap.size + 1, 1, none⟩ = some (.int .i64 gn) ∧ w'.cell? ⟨w.heap.size + 1, 2, none⟩ = some (.string gs) ∧ w'.cell? ⟨w.heap.size + 1, 3, none⟩ = some (.slice b M dap)) := fun w' hb => by
    have k1 := hA5.below hb hA5.lt
    have k2 := hB5.below hb hB5.lt
    exact ⟨hb, k1.cell 0, k1.cell 1, k1.cell 2, k1.cell 3, k2.cell 0, k2.cell 1, k2.cell 2, k2.cell 3⟩
  have hS0 := hKeep w5.drew ((Below.refl _ w5).drew)
  obtain ⟨D, HD⟩ : ∃ D : Bool, Hid ((hdB ⟨hk, hn, hs⟩ ⟨gk, gn, gs⟩ L M && sameB kids gids) = D) := ⟨_, Lib.hid rfl⟩
  have hdec : decide (X = Y) = D := by
    have := enc_apart (HE.out.trans HE0.out) (HF.out.trans HF0.out) Hft.out.1 Hft.out.2 (by omega) (by omega)
    rw [HX.out, HY.out, HL.out, HM.out, HD.out] at this
    exact this
  have c1 : ∀ w', (Below w5.heap.size w5 w' ∧ w'.cell? ⟨w.heap.size, 0, none⟩ = some (.int .i64 hk) ∧ w'.cell? ⟨w.heap.size, 1, none⟩ = some (.int .i64 hn) ∧ w'.cell? ⟨w.heap.size, 2, none⟩ = some (.string hs) ∧ w'.cell? ⟨w.heap.size, 3, none⟩ = some (.slice a L cap) ∧ w'.cell? ⟨w.heap.size + 1, 0, none⟩ = some (.int .i64 gk) ∧ w'.cell? ⟨w.heap.size + 1, 1, none⟩ = some (.int .i64 gn) ∧ w'.cell? ⟨w.heap.size + 1, 2, none⟩ = some (.string gs) ∧ w'.cell? ⟨w.heap.size + 1, 3, none⟩ = some (.slice b M dap)) → Calls Try.prog 22 #[.slice a4 LX c4, .slice a5 LY c5] w' fun e w6 => e = .returned (.bool D) ∧ (Below w5.heap.size w5 w6 ∧ w6.cell? ⟨w.heap.size, 0, none⟩ = some (.int .i64 hk) ∧ w6.cell? ⟨w.heap.size, 1, none⟩ = some (.int .i64 hn) ∧ w6.cell? ⟨w.heap.size, 2, none⟩ = some (.string hs) ∧ w6.cell? ⟨w.heap.size, 3, none⟩ = some (.slice a L cap) ∧ w6.cell? ⟨w.heap.size + 1, 0, none⟩ = some (.int .i64 gk) ∧ w6.cell? ⟨w.heap.size + 1, 1, none⟩ = some (.int .i64 gn) ∧ w6.cell? ⟨w.heap.size + 1, 2, none⟩ = some (.string gs) ∧ w6.cell? ⟨w.heap.size + 1, 3, none⟩ = some (.slice b M dap)) := fun w' hS => by
    have hc := sameBytes_any a4 a5 LX LY c4 c5 X Y w' (hx5.grown hS.1) (hy5.grown hS.1) HLX.out.symm HLY.out.symm
    rw [hdec] at hc
    exact hc.mono fun e w6 hp => ⟨hp.1, by have h2 := hp.2; subst h2; exact hS⟩
  have c2 : ∀ w', (Below w5.heap.size w5 w' ∧ w'.cell? ⟨w.heap.size, 0, none⟩ = some (.int .i64 hk) ∧ w'.cell? ⟨w.heap.size, 1, none⟩ = some (.int .i64 hn) ∧ w'.cell? ⟨w.heap.size, 2, none⟩ = some (.string hs) ∧ w'.cell? ⟨w.heap.size, 3, none⟩ = some (.slice a L cap) ∧ w'.cell? ⟨w.heap.size + 1, 0, none⟩ = some (.int .i64 gk) ∧ w'.cell? ⟨w.heap.size + 1, 1, none⟩ = some (.int .i64 gn) ∧ w'.cell? ⟨w.heap.size + 1, 2, none⟩ = some (.string gs) ∧ w'.cell? ⟨w.heap.size + 1, 3, none⟩ = some (.slice b M dap)) → Calls Try.prog 16 #[itemV ⟨hk, hn, hs⟩ a L cap, itemV ⟨gk, gn, gs⟩ b M dap] w' fun e w6 => e = .returned (.bool D) ∧ (Below w5.heap.size w5 w6 ∧ w6.cell? ⟨w.heap.size, 0, none⟩ = some (.int .i64 hk) ∧ w6.cell? ⟨w.heap.size, 1, none⟩ = some (.int .i64 hn) ∧ w6.cell? ⟨w.heap.size, 2, none⟩ = some (.string hs) ∧ w6.cell? ⟨w.heap.size, 3, none⟩ = some (.slice a L cap) ∧ w6.cell? ⟨w.heap.size + 1, 0, none⟩ = some (.int .i64 gk) ∧ w6.cell? ⟨w.heap.size + 1, 1, none⟩ = some (.int .i64 gn) ∧ w6.cell? ⟨w.heap.size + 1, 2, none⟩ = some (.string gs) ∧ w6.cell? ⟨w.heap.size + 1, 3, none⟩ = some (.slice b M dap)) := fun w' hS => by
    have hc := wsame_any ⟨hk, hn, hs⟩ ⟨gk, gn, gs⟩ kids gids a b cap dap w' (by omega) (hI5.grown hS.1) (hJ5.grown hS.1)
    rw [HL.out, HM.out, HD.out] at hc
    exact hc.mono fun e w6 hp => ⟨hp.1, hKeep w6 (hS.1.trans (hp.2.mono hS.1.size))⟩
  clear hdec
  go_wp2_with (fail)
  go_region_held3 (fun w' => Below w5.heap.size w5 w' ∧ w'.cell? ⟨w.heap.size, 0, none⟩ = some (.int .i64 hk) ∧ w'.cell? ⟨w.heap.size, 1, none⟩ = some (.int .i64 hn) ∧ w'.cell? ⟨w.heap.size, 2, none⟩ = some (.string hs) ∧ w'.cell? ⟨w.heap.size, 3, none⟩ = some (.slice a L cap) ∧ w'.cell? ⟨w.heap.size + 1, 0, none⟩ = some (.int .i64 gk) ∧ w'.cell? ⟨w.heap.size + 1, 1, none⟩ = some (.int .i64 gn) ∧ w'.cell? ⟨w.heap.size + 1, 2, none⟩ = some (.string gs) ∧ w'.cell? ⟨w.heap.size + 1, 3, none⟩ = some (.slice b M dap)) (assumption)
    (first | (go_at_call 22; (with_reducible refine (c1 _ (by assumption)).mono ?_); rintro e w6 ⟨rfl, hS5⟩) | (go_at_call 16; (with_reducible refine (c2 _ (by assumption)).mono ?_); rintro e w6 ⟨rfl, hS5⟩))
  all_goals
    go_wp2_with (fail)
    exact bodyPost_ret (v := .bool true) (by simp [results, Try.results10, go_sem]; try rfl) rfl ⟨rfl, hbw5.trans (hS5.1.mono hbw5.size)⟩
end Go.Proofs.Ytahibjiiaocjkaa
