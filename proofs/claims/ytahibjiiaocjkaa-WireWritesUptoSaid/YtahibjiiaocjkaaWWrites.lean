/- The law WireWrites. -/
import Derived.Test.YtahibjiiaocjkaaREncode
import Derived.Test.YtahibjiiaocjkaaWSeals
namespace Go.Proofs.Ytahibjiiaocjkaa
open Go.RowKit

set_option maxRecDepth 100000 in
set_option maxHeartbeats 2000000 in
theorem wireWrites_any (h : Hd) (kids : Fo) (a : Option Addr) (cap : Nat) (w : World) (hI : Items w a cap kids) {N : Nat} (hF : Fits h kids N) (hN1 : N ≤ 1048576) :
    Calls Try.prog 4 #[itemV h a kids.len cap] w fun e w' => e = .returned (.bool true) ∧ Below w.heap.size w w' := by
  have hwt1 := wt_of hF hN1
  have hroom := encL_room hF hN1
  clear hF hN1
  obtain ⟨hk, hn, hs⟩ := h
  obtain ⟨L, HL⟩ : ∃ L, Hid (kids.len = L) := ⟨_, Lib.hid rfl⟩
  rw [HL.out]
  have hA0 := Blk.new w 24 #[.int .i64 hk, .int .i64 hn, .string hs, .slice a L cap]
  have hb0 : Below w.heap.size w (w.alloc (.cells #[.int .i64 hk, .int .i64 hn, .string hs, .slice a L cap] 24)) := (Below.refl w.heap.size w).alloc (Nat.le_refl _) _
  go_enter Try.func4, Try.ntmps4
  go_wp2_with (fail)
  refine (live_any _).mono ?_
  rintro e w1 ⟨rfl, hb1⟩
  have hA1 := hA0.below hb1 hA0.lt
  have hbw1 : Below w.heap.size w w1 := hb0.trans (hb1.mono hb0.size)
  clear hA0 hb0 hb1
  have hl1 := hA1.lt
  have x0 := hA1.cell 0
  have x1 := hA1.cell 1
  have x2 := hA1.cell 2
  have x3 := hA1.cell 3
  simp only [List.getElem?_cons_zero, List.getElem?_cons_succ] at x0 x1 x2 x3
  have hR := Blk.new w1 24 #[.int .i64 hk, .int .i64 hn, .string hs, .slice a L cap]
  have hbR : Below w1.heap.size w1 (w1.alloc (.cells #[.int .i64 hk, .int .i64 hn, .string hs, .slice a L cap] 24)) := (Below.refl _ w1).alloc (Nat.le_refl _) _
  have hIr := (hI.grown hbw1).grown hbR
  have hIt : Items (w1.alloc (.cells #[.int .i64 hk, .int .i64 hn, .string hs, .slice a L cap] 24)) (some ⟨w1.heap.size, 0, none⟩) 1 (.cons ⟨hk, hn, hs⟩ kids .nil) :=
    ⟨by simp [Fo.len], by omega, fun e => (by cases e), fun _ => ⟨_, _, rfl, hR.cell 0, hR.cell 1, hR.cell 2, ⟨a, cap, by rw [HL.out]; exact hR.cell 3, hIr.le, hIr.max, hIr.nil_, hIr.at_⟩, trivial⟩⟩
  have hbig := big_any _ _ _ _ hIt
  obtain ⟨B, HB⟩ : ∃ B, Hid (bigB (.cons ⟨hk, hn, hs⟩ kids .nil) = B) := ⟨_, Lib.hid rfl⟩
  rw [HB.out] at hbig
  simp only [Fo.len, Nat.zero_add] at hbig
  go_wp2_with (fail)
  refine hbig.mono ?_
  rintro e w3 ⟨rfl, hb3⟩
  have hb13 : Below w1.heap.size w1 w3 := hbR.trans (hb3.mono hbR.size)
  have hA3 := hA1.below hb13 hA1.lt
  have hbw3 : Below w.heap.size w w3 := hbw1.trans (hb13.mono hbw1.size)
  have hI3 := hI.grown hbw3
  clear hA1 hR hbR hIr hIt hbig hb3 hb13 hbw1 x0 x1 x2 x3 hl1
  cases B
  case true =>
    go_wp2_with (fail)
    exact bodyPost_ret (v := .bool true) (by simp [results, Try.results4, go_sem]; try rfl) rfl ⟨rfl, hbw3⟩
  have hz1 : kids.size + 1 ≤ 2000 := by
    have := HB.out
    simp [bigB] at this
    omega
  obtain ⟨E, HE⟩ : ∃ E : Int, Hid (checkE (Fo.pre 1 (.cons ⟨hk, hn, hs⟩ kids .nil)) = E) := ⟨_, Lib.hid rfl⟩
  obtain ⟨X, HX⟩ : ∃ E, Hid (encB (Fo.pre 1 (.cons ⟨hk, hn, hs⟩ kids .nil)) = E) := ⟨_, Lib.hid rfl⟩
  obtain ⟨LX, HLX⟩ : ∃ E, Hid (X.length = E) := ⟨_, Lib.hid rfl⟩
  have hcx := wencode_any ⟨hk, hn, hs⟩ kids a cap w3 hI3 (by omega) hwt1
  rw [HX.out, HLX.out, HE.out, HL.out] at hcx
  have x0 := hA3.cell 0
  have x1 := hA3.cell 1
  have x2 := hA3.cell 2
  have x3 := hA3.cell 3
  simp only [List.getElem?_cons_zero, List.getElem?_cons_succ] at x0 x1 x2 x3
  clear hwt1
  go_wp2_with (fail)
  refine hcx.mono ?_
  rintro e w4 ⟨a4, c4, rfl, ho4, hb4⟩
  have hA4 := hA3.below hb4 hA3.lt
  have hbw4 : Below w.heap.size w w4 := hbw3.trans (hb4.mono hbw3.size)
  have hx4 := ho4.bytes
  have hcy := rencode_any ⟨hk, hn, hs⟩ kids a cap w4 (hI.grown hbw4) (by omega) hroom
  rw [HX.out, HLX.out, HE.out, HL.out] at hcy
  clear x0 x1 x2 x3 hcx hA3 hI3 ho4 hroom
  have x0 := hA4.cell 0
  have x1 := hA4.cell 1
  have x2 := hA4.cell 2
  have x3 := hA4.cell 3
  simp only [List.getElem?_cons_zero, List.getElem?_cons_succ] at x0 x1 x2 x3
  go_wp2_with (fail)
  refine hcy.mono ?_
  rintro e w5 ⟨a5, c5, rfl, ho5, hb5⟩
  have hbw5 : Below w.heap.size w w5 := hbw4.trans (hb5.mono hbw4.size)
  have hx5 := hx4.grown hb5
  have hy5 := ho5.bytes
  clear x0 x1 x2 x3 hcy hA4 ho5 hx4 hb4 hb5 hbw4 hbw3 hI
  go_wp2_with (fail)
  refine (sameBytes_any a4 a5 LX LX c4 c5 X X w5 hx5 hy5 HLX.out.symm HLX.out.symm).mono ?_
  rintro e w6 ⟨rfl, rfl⟩
  rw [show decide (X = X) = true from by simp]
  go_wp2_with (fail)
  exact bodyPost_ret (v := .bool true) (by simp [results, Try.results4, go_sem]; try rfl) rfl ⟨rfl, hbw5⟩
end Go.Proofs.Ytahibjiiaocjkaa
