/- The law WireBack. -/
import Derived.Test.YtahibjiiaocjkaaWCut
namespace Go.Proofs.Ytahibjiiaocjkaa
open Go.RowKit

theorem sameB_refl : ∀ f : Fo, sameB f f = true := by
  intro f
  induction f with
  | nil => rfl
  | cons h k r ihk ihr => simp [sameB, hdB, ihk, ihr]
/-- What was written is read as what it was, whatever stands behind it. -/
theorem back_read {h : Hd} {kids : Fo} (e : checkE (Fo.pre 1 (.cons h kids .nil)) = 0) (ho : (Fo.cons h kids .nil).ok) (ys : List UInt8) : rdItem 40 (encB (Fo.pre 1 (.cons h kids .nil)) ++ ys) = .inr (h, kids, (encB (Fo.pre 1 (.cons h kids .nil))).length) := by
  obtain ⟨p1, p2, p3⟩ := check_parts e
  obtain ⟨o1, o2, o3, o4, _⟩ := ho
  rw [encB_split e, List.append_assoc, item_back p1 o1 o2 o3 (fun zs => rd_back kids 39 zs p2 o4 p3), List.length_append]
theorem open_back {b ys : List UInt8} (hb : b.length ≤ 2147483647) : openE (sealed b ++ ys) = 0 ∧ openV (sealed b ++ ys) = b ∧ openN (sealed b ++ ys) = b.length + 8 := by
  have hl : (sealed b ++ ys).length = b.length + 8 + ys.length := by rw [List.length_append, sealed_length]
  have e4 : (sealed b ++ ys).take 4 = hiB 4 b.length := by rw [List.take_append_of_le_length (by rw [sealed_length]; omega), sealed_take]
  have hv : hiV ((sealed b ++ ys).take 4) = b.length := by rw [e4, hiV_hiB4 _ hb]
  have hform : sealed b ++ ys = (hiB 4 b.length ++ b) ++ (loB 4 (crc (hiB 4 b.length ++ b)).toNat ++ ys) := by unfold sealed; rw [List.append_assoc]
  have hlen : (hiB 4 b.length ++ b).length = b.length + 4 := by rw [List.length_append, hiB_length]; omega
  have ht : (sealed b ++ ys).take (b.length + 4) = hiB 4 b.length ++ b := by rw [hform, ← hlen, List.take_left]
  have hd : ((sealed b ++ ys).drop (b.length + 4)).take 4 = loB 4 (crc (hiB 4 b.length ++ b)).toNat := by
    rw [hform, ← hlen, List.drop_left, List.take_append_of_le_length (by rw [loB_length]; exact Nat.le_refl _), List.take_of_length_le (by rw [loB_length]; exact Nat.le_refl _)]
  have hE : openE (sealed b ++ ys) = 0 := by
    unfold openE
    rw [hv, hl, if_neg (by omega), if_neg (by omega), if_neg (by omega), ht, hd, loV_loB4 _ (crc _).isLt, if_neg (by simp)]
  refine ⟨hE, ?_, ?_⟩
  · unfold openV
    rw [if_pos hE, hv, hform, List.append_assoc, List.drop_left' (hiB_length 4 b.length), List.take_left]
  · unfold openN
    rw [if_pos hE, hv]

set_option maxRecDepth 100000 in
set_option maxHeartbeats 3000000 in
theorem wireBack_any (h : Hd) (kids : Fo) (a : Option Addr) (cap : Nat) (ab : Option Addr) (lb cb : Nat) (ys : List UInt8) (w : World) (hby : Bytes w ab cb ys) (hly : lb = ys.length) (hI : Items w a cap kids) {N : Nat} (hF : Fits h kids N) (hN1 : N ≤ 1048576) :
    Calls Try.prog 6 #[itemV h a kids.len cap, .slice ab lb cb] w fun e w' => e = .returned (.bool true) ∧ Below w.heap.size w w' := by
  have hwt1 := wt_of hF hN1
  have HLY := Lib.hid hly
  clear hly
  have hroom := encL_room hF hN1
  have hok := ok_of hF (by omega)
  have HR := Lib.hid (room2 hF hN1)
  clear hF hN1
  obtain ⟨hk, hn, hs⟩ := h
  obtain ⟨L, HL⟩ : ∃ L, Hid (kids.len = L) := ⟨_, Lib.hid rfl⟩
  rw [HL.out]
  have hA0 := Blk.new w 24 #[.int .i64 hk, .int .i64 hn, .string hs, .slice a L cap]
  have hb0 : Below w.heap.size w (w.alloc (.cells #[.int .i64 hk, .int .i64 hn, .string hs, .slice a L cap] 24)) := (Below.refl w.heap.size w).alloc (Nat.le_refl _) _
  go_enter Try.func6, Try.ntmps6
  go_wp2_with (fail)
  refine (live_any _).mono ?_
  rintro e w1 ⟨rfl, hb1⟩
  have hA1 := hA0.below hb1 hA0.lt
  have hbw1 : Below w.heap.size w w1 := hb0.trans (hb1.mono hb0.size)
  clear hA0 hb0 hb1
  have hl1 := hA1.lt
  have x0 := hA1.cell 0
  have x1 := hA1.cell 1
  have x2 := hA1.cell 2
  have x3 := hA1.cell 3
  simp only [List.getElem?_cons_zero, List.getElem?_cons_succ] at x0 x1 x2 x3
  have hR := Blk.new w1 24 #[.int .i64 hk, .int .i64 hn, .string hs, .slice a L cap]
  have hbR : Below w1.heap.size w1 (w1.alloc (.cells #[.int .i64 hk, .int .i64 hn, .string hs, .slice a L cap] 24)) := (Below.refl _ w1).alloc (Nat.le_refl _) _
  have hIr := (hI.grown hbw1).grown hbR
  have hIt : Items (w1.alloc (.cells #[.int .i64 hk, .int .i64 hn, .string hs, .slice a L cap] 24)) (some ⟨w1.heap.size, 0, none⟩) 1 (.cons ⟨hk, hn, hs⟩ kids .nil) :=
    ⟨by simp [Fo.len], by omega, fun e => (by cases e), fun _ => ⟨_, _, rfl, hR.cell 0, hR.cell 1, hR.cell 2, ⟨a, cap, by rw [HL.out]; exact hR.cell 3, hIr.le, hIr.max, hIr.nil_, hIr.at_⟩, trivial⟩⟩
  have hbig := big_any _ _ _ _ hIt
  obtain ⟨B, HB⟩ : ∃ B, Hid (bigB (.cons ⟨hk, hn, hs⟩ kids .nil) = B) := ⟨_, Lib.hid rfl⟩
  rw [HB.out] at hbig
  simp only [Fo.len, Nat.zero_add] at hbig
  go_wp2_with (fail)
  refine hbig.mono ?_
  rintro e w3 ⟨rfl, hb3⟩
  have hb13 : Below w1.heap.size w1 w3 := hbR.trans (hb3.mono hbR.size)
  have hA3 := hA1.below hb13 hA1.lt
  have hbw3 : Below w.heap.size w w3 := hbw1.trans (hb13.mono hbw1.size)
  have hI3 := hI.grown hbw3
  clear hA1 hR hbR hIr hIt hbig hb3 hb13 hbw1 x0 x1 x2 x3 hl1
  cases B
  case true =>
    clear hby
    go_wp2_with (fail)
    exact bodyPost_ret (v := .bool true) (by simp [results, Try.results6, go_sem]; try rfl) rfl ⟨rfl, hbw3⟩
  by_cases hlong : lb ≤ 100000
  case neg =>
    have hgt : (100000 : Int) < (lb : Int) := by omega
    clear hby
    go_wp2_with (fail)
    exact bodyPost_ret (v := .bool true) (by simp [results, Try.results6, go_sem]; try rfl) rfl ⟨rfl, hbw3⟩
  have hng : ¬ (100000 : Int) < (lb : Int) := by omega
  have hz1 : kids.size + 1 ≤ 2000 := by
    have := HB.out
    simp [bigB] at this
    omega
  obtain ⟨E, HE⟩ : ∃ E : Int, Hid (checkE (Fo.pre 1 (.cons ⟨hk, hn, hs⟩ kids .nil)) = E) := ⟨_, Lib.hid rfl⟩
  obtain ⟨X, HX⟩ : ∃ E, Hid (encB (Fo.pre 1 (.cons ⟨hk, hn, hs⟩ kids .nil)) = E) := ⟨_, Lib.hid rfl⟩
  obtain ⟨LX, HLX⟩ : ∃ E, Hid (X.length = E) := ⟨_, Lib.hid rfl⟩
  have hcx := wencode_any ⟨hk, hn, hs⟩ kids a cap w3 hI3 (by omega) hwt1
  rw [HX.out, HLX.out, HE.out, HL.out] at hcx
  have x0 := hA3.cell 0
  have x1 := hA3.cell 1
  have x2 := hA3.cell 2
  have x3 := hA3.cell 3
  simp only [List.getElem?_cons_zero, List.getElem?_cons_succ] at x0 x1 x2 x3
  clear hwt1
  go_wp2_with (fail)
  refine hcx.mono ?_
  rintro e w4 ⟨a4, c4, rfl, ho4, hb4⟩
  have hA4 := hA3.below hb4 hA3.lt
  have hbw4 : Below w.heap.size w w4 := hbw3.trans (hb4.mono hbw3.size)
  have hx4 := ho4.bytes
  have HEB := Lib.hid (fun e => encB_bad (h := ⟨hk, hn, hs⟩) (kids := kids) e)
  have HBR := Lib.hid (fun e => back_read (h := ⟨hk, hn, hs⟩) (kids := kids) e hok ys)
  have HRO := Lib.hid (show checkE (Fo.pre 1 (.cons ⟨hk, hn, hs⟩ kids .nil)) = 0 → X.length ≤ 31457280 from fun e => by rw [← HX.out]; unfold encB; rw [if_pos e]; exact HR.out)
  clear x0 x1 x2 x3 hcx hA3 hI3 hroom hok hbw3
  by_cases hE : E = 0
  case neg =>
    have hX : X = [] := by rw [← HX.out]; exact HEB.out (by rw [HE.out]; exact hE)
    obtain rfl : LX = 0 := by rw [← HLX.out, hX]; rfl
    have hE1 : (E != 0) = true := by simpa using hE
    clear hE hX hby
    go_wp2_with (fail)
    exact bodyPost_ret (v := .bool true) (by simp [results, Try.results6, go_sem]; try rfl) rfl ⟨rfl, hbw4⟩
  have hE1 : (E != 0) = false := by simp [hE]
  have hEE := HE.out.trans hE
  have hro := HRO.out hEE
  have hbr := HBR.out hEE
  rw [HX.out, HLX.out] at hbr
  rw [HLX.out] at hro
  have HBR2 := Lib.hid hbr
  clear hE hEE hbr
  -- append(append(nil, b...), behind...)
  obtain ⟨a5, c5, w5, hrun5, ho5, hg5⟩ := run_append_bytes w4 31 (OwnB.nil w4 w4.heap.size) a4 LX c4 X hx4 HLX.out.symm (by omega) (Nat.le_refl _)
  have hb45 : Below w4.heap.size w4 w5 := grownBy_below hg5 (fun i e => by simp [Value.ownBlock] at e)
  have hbw5 : Below w.heap.size w w5 := hbw4.trans (hb45.mono hbw4.size)
  obtain ⟨a6, c6, w6, hrun6, ho6, hg6⟩ := run_append_bytes w5 31 ho5 ab lb cb ys (hby.grown hbw5) HLY.out (by omega) hb45.size
  have hb46 : Below w4.heap.size w4 w6 := hb45.grown hg6 hb45.size (fun i e => (ho5.lt i e).1)
  have hbw6 : Below w.heap.size w w6 := hbw4.trans (hb46.mono hbw4.size)
  rw [Nat.zero_add] at hrun5 hrun6 ho6
  simp only [List.nil_append] at ho6
  have Hr5 := Lib.hid hrun5
  have Hr6 := Lib.hid hrun6
  have hread := wread_any a6 (LX + lb) c6 (X ++ ys) w6 ho6.bytes (by rw [List.length_append, HLX.out, ← HLY.out])
  have hx6 := hx4.grown hb46
  have hA6 := (hA4.below hb46 hA4.lt)
  clear hrun5 hrun6 ho5 ho6 hg5 hg6 hb45 hbw5 hx4 hA4 ho4 hb4
  go_wp2_with (first | (at_builtin; refine wpList_append_run rfl _ _ 31 31 rfl _ _ _ _ rfl rfl Hr5.out ?_) | (at_builtin; refine wpList_append_run rfl _ _ 31 31 rfl _ _ _ _ rfl rfl Hr6.out ?_))
  refine hread.mono ?_
  rintro e w7 ⟨hans, hb67⟩
  unfold ItemAns at hans
  rw [HBR2.out] at hans
  simp only at hans
  obtain ⟨aa, cc, rfl, hIP⟩ := hans
  have hbw7 : Below w.heap.size w w7 := hbw6.trans (hb67.mono hbw6.size)
  have hI7 := hIP.items
  rw [HL.out]
  have hk1 := hI7.le
  have hk2 := hI7.max
  rw [HL.out] at hk1
  have hbz : Below w7.heap.size w7 (w7.alloc (.cells #[.int .i64 hk, .int .i64 hn, .string hs, .slice aa L cc] 24)) := (Below.refl _ w7).alloc (Nat.le_refl _) _
  have hBx := Blk.new w7 24 #[.int .i64 hk, .int .i64 hn, .string hs, .slice aa L cc]
  have hbw8 : Below w.heap.size w (w7.alloc (.cells #[.int .i64 hk, .int .i64 hn, .string hs, .slice aa L cc] 24)) := hbw7.trans (hbz.mono hbw7.size)
  have hI8 := hI7.grown hbz
  have hx8 := (hx6.grown hb67).grown hbz
  have hA8 := (hA6.below hb67 hA6.lt).alloc (.cells #[.int .i64 hk, .int .i64 hn, .string hs, .slice aa L cc] 24)
  have hseal := wseal_n a4 LX c4 X _ hx8 HLX.out.symm (by omega)
  obtain ⟨S, HS⟩ : ∃ S, Hid (sealed X = S) := ⟨_, Lib.hid rfl⟩
  obtain ⟨LS, HLS⟩ : ∃ LS, Hid (S.length = LS) := ⟨_, Lib.hid rfl⟩
  have hls : LS = LX + 8 := by rw [← HLS.out, ← HS.out, sealed_length, HLX.out]
  rw [HS.out, HLS.out] at hseal
  have Hls := Lib.hid hls
  clear hread hb67 hbz hx6 hls hbw6 hbw7 hIP hI7 hA6 hb46 hbw4
  go_wp2_with (fail)
  generalize (w7.alloc (.cells #[.int .i64 hk, .int .i64 hn, .string hs, .slice aa L cc] 24)) = w8 at hbw8 hseal hI8 hx8 hA8 hBx ⊢
  refine hseal.mono ?_
  rintro e w9 ⟨a9, c9, rfl, ho9, hb89⟩
  have hbw9 : Below w.heap.size w w9 := hbw8.trans (hb89.mono hbw8.size)
  have hx9 := hx8.grown hb89
  have hs9 := ho9.bytes
  obtain ⟨aA, cA, wA, hrunA, hoA, hgA⟩ := run_append_bytes w9 31 (OwnB.nil w9 w9.heap.size) a9 LS c9 S hs9 HLS.out.symm (by have := Hls.out; omega) (Nat.le_refl _)
  have hb9A : Below w9.heap.size w9 wA := grownBy_below hgA (fun i e => by simp [Value.ownBlock] at e)
  have hbwA : Below w.heap.size w wA := hbw9.trans (hb9A.mono hbw9.size)
  obtain ⟨aB, cB, wB, hrunB, hoB, hgB⟩ := run_append_bytes wA 31 hoA ab lb cb ys (hby.grown hbwA) HLY.out (by have := Hls.out; omega) hb9A.size
  have hb9B : Below w9.heap.size w9 wB := hb9A.grown hgB hb9A.size (fun i e => (hoA.lt i e).1)
  have hbwB : Below w.heap.size w wB := hbw9.trans (hb9B.mono hbw9.size)
  rw [Nat.zero_add] at hrunA hrunB hoB
  simp only [List.nil_append] at hoB
  have HrA := Lib.hid hrunA
  have HrB := Lib.hid hrunB
  have hob := open_back (b := X) (ys := ys) (by rw [HLX.out]; omega)
  rw [HS.out, HLX.out] at hob
  have Hob := Lib.hid hob
  have hop := wopen_any aB (LS + lb) cB (S ++ ys) wB hoB.bytes (by rw [List.length_append, HLS.out, ← HLY.out])
  have hIB := (hI8.grown hb89).grown hb9B
  have hxB := hx9.grown hb9B
  have hAB := (hA8.below hb89 hA8.lt).below hb9B (Nat.lt_of_lt_of_le hA8.lt hb89.size)
  have hBB := (hBx.below hb89 hBx.lt).below hb9B (Nat.lt_of_lt_of_le hBx.lt hb89.size)
  clear hseal hrunA hrunB hoA hoB hgA hgB hb9A hbwA hb89 hbw8 hI8 hx8 hA8 hBx ho9 hx9 hs9 hob hb9B hbw9 hby
  go_wp2_with (first | (at_builtin; refine wpList_append_run rfl _ _ 31 31 rfl _ _ _ _ rfl rfl HrA.out ?_) | (at_builtin; refine wpList_append_run rfl _ _ 31 31 rfl _ _ _ _ rfl rfl HrB.out ?_))
  refine hop.mono ?_
  rintro e wC ⟨aC, cC, rfl, hoC, hbBC⟩
  obtain ⟨q1, q2, q3⟩ := Hob.out
  rw [q1, q2, q3, HLX.out]
  rw [q2, HLX.out] at hoC
  have hbwC : Below w.heap.size w wC := hbwB.trans (hbBC.mono hbwB.size)
  have hIC := hIB.grown hbBC
  have hxC := hxB.grown hbBC
  have hyC := hoC.bytes
  have hAC := hAB.below hbBC hAB.lt
  have hBC := hBB.below hbBC hBB.lt
  have x0 := hAC.cell 0
  have x1 := hAC.cell 1
  have x2 := hAC.cell 2
  have x3 := hAC.cell 3
  have y0 := hBC.cell 0
  have y1 := hBC.cell 1
  have y2 := hBC.cell 2
  have y3 := hBC.cell 3
  simp only [List.getElem?_cons_zero, List.getElem?_cons_succ] at x0 x1 x2 x3 y0 y1 y2 y3
  have hsm := rsame_any (kids.size + 1) ⟨hk, hn, hs⟩ ⟨hk, hn, hs⟩ kids kids aa a cc cap wC (by omega) hIC (hI.grown hbwC)
  rw [show (hdB ⟨hk, hn, hs⟩ ⟨hk, hn, hs⟩ kids.len kids.len && sameB kids kids) = true from by simp [hdB, sameB_refl], HL.out] at hsm
  have hls8 : ((LX : Int) + 8 == (LS : Int)) = true := by have := Hls.out; simp; omega
  have hls9 : (((LX + 8 : Nat) : Int) == (LS : Int)) = true := by have := Hls.out; simp; omega
  clear hop q1 q2 q3 hbBC hoC hbwB hIB hxB hAB hBB
  go_wp2_with (fail)
  refine hsm.mono ?_
  rintro e wD ⟨rfl, hbCD⟩
  have hbwD : Below w.heap.size w wD := hbwC.trans (hbCD.mono hbwC.size)
  have hsame := sameBytes_any aC a4 LX LX cC c4 X X wD (hyC.grown hbCD) (hxC.grown hbCD) HLX.out.symm HLX.out.symm
  rw [show decide (X = X) = true from by simp] at hsame
  clear hsm hbCD hyC hxC hbwC hIC hAC hBC x0 x1 x2 x3 y0 y1 y2 y3
  go_wp2_with (fail)
  refine hsame.mono ?_
  rintro e wE ⟨rfl, rfl⟩
  go_wp2_with (fail)
  exact bodyPost_ret (v := .bool true) (by simp [results, Try.results6, go_sem]; try rfl) rfl ⟨rfl, hbwD⟩
end Go.Proofs.Ytahibjiiaocjkaa
