/- The law WireCut. -/
import Derived.Test.YtahibjiiaocjkaaRdItem
import Derived.Test.YtahibjiiaocjkaaREncode
import Derived.Test.YtahibjiiaocjkaaWSeals
import Derived.Test.YtahibjiiaocjkaaBurst2
namespace Go.Proofs.Ytahibjiiaocjkaa
open Go.RowKit

theorem at_any (A M : Int) (h1 : 1 ≤ M) (h2 : M ≤ 4611686018427387904) : ∃ T : Nat, (wrap64 (A.tmod M + M)).tmod M = (T : Int) ∧ (T : Int) < M := by
  have hlt : A.tmod M < M := Int.tmod_lt_of_pos A (by omega)
  have hgt : -M < A.tmod M := by
    have := Int.lt_tmod_of_pos A (b := M) (by omega)
    omega
  generalize A.tmod M = q at hlt hgt
  have hw : wrap64 (q + M) = q + M := by unfold wrap64; omega
  rw [hw]
  refine ⟨((q + M).tmod M).toNat, ?_, ?_⟩
  · rw [Int.toNat_of_nonneg (Int.tmod_nonneg _ (by omega))]
  · rw [Int.toNat_of_nonneg (Int.tmod_nonneg _ (by omega))]
    exact Int.tmod_lt_of_pos _ (by omega)

theorem ok_wt : ∀ (f : Fo), f.fit → f.wtS ≤ 2147483647 → f.ok := by
  intro f
  induction f with
  | nil => intro _ _; trivial
  | cons h k r ihk ihr =>
    rintro ⟨f1, f2, f3, f4⟩ hw
    simp only [Fo.wtS] at hw
    have h1 := Fo.len_le k
    have h2 := size_wtS k
    exact ⟨f1, by omega, by omega, ihk f3 (by omega), ihr f4 (by omega)⟩
theorem ok_of {h : Hd} {kids : Fo} {N : Nat} (hF : Fits h kids N) (hN : N ≤ 2147483647) : (Fo.cons h kids .nil).ok :=
  ok_wt _ (fit_of hF) (by have := hF.2.2.2; simp only [Fo.wtS]; omega)
theorem room2 {h : Hd} {kids : Fo} {N : Nat} (hF : Fits h kids N) (hN : N ≤ 1048576) : (encL (Fo.pre 1 (.cons h kids .nil))).length ≤ 31457280 := by
  have h1 := wt_pre (.cons h kids .nil) 1
  have h2 := hF.2.2.2
  simp only [Fo.wtS] at h1
  refine Nat.le_trans (encL_le _ (fun x hx => ?_)) (Nat.le_trans h1 (by omega))
  have h3 := pre_len _ 1 x hx
  have h4 := size_wtS kids
  refine ⟨by simp [Fo.size] at h3; omega, ?_⟩
  have : ∀ (l : List Nd), x ∈ l → x.h.s.size ≤ wt l := by
    intro l
    induction l with
    | nil => intro h; cases h
    | cons y r ih => intro h; rcases List.mem_cons.1 h with rfl | h
                     · simp [wt]; omega
                     · have := ih h; simp [wt]; omega
  have := this _ hx
  omega

/-- What of an item that may be: its head, its depth. -/
theorem check_parts {h : Hd} {kids : Fo} (e : checkE (Fo.pre 1 (.cons h kids .nil)) = 0) : plainB h kids.len = true ∧ mayB kids = true ∧ kids.deep ≤ 39 := by
  rw [checkE_ref] at e
  split at e
  · rename_i hp
    rw [Bool.and_eq_true] at hp
    split at e
    · rename_i hd; exact ⟨hp.1, hp.2, by omega⟩
    · simp at e
  · simp at e
theorem encB_split {h : Hd} {kids : Fo} (e : checkE (Fo.pre 1 (.cons h kids .nil)) = 0) : encB (Fo.pre 1 (.cons h kids .nil)) = headB h kids.len ++ encL (kids.pre 1) := by
  unfold encB
  rw [if_pos e, encL_cons, encL_depth kids 2 1]
  simp [encL, Fo.pre]
/-- What was cut is short. -/
theorem cut_short {h : Hd} {kids : Fo} (e : checkE (Fo.pre 1 (.cons h kids .nil)) = 0) (ho : (Fo.cons h kids .nil).ok) {j : Nat} (hj : j < (encB (Fo.pre 1 (.cons h kids .nil))).length) : rdItem 40 ((encB (Fo.pre 1 (.cons h kids .nil))).take j) = .inl 10 := by
  obtain ⟨p1, p2, p3⟩ := check_parts e
  obtain ⟨o1, o2, o3, o4, _⟩ := ho
  rw [encB_split e] at hj ⊢
  exact item_cut p1 o2 o3 (fun j hj => rd_cut kids 39 j p2 o4 p3 hj) hj
theorem encB_pos {h : Hd} {kids : Fo} (e : checkE (Fo.pre 1 (.cons h kids .nil)) = 0) : 1 ≤ (encB (Fo.pre 1 (.cons h kids .nil))).length := by
  rw [encB_split e]
  unfold headB
  simp
theorem open_cut {b : List UInt8} (hb : b.length ≤ 2147483647) {j : Nat} (hj : j < (sealed b).length) : openE ((sealed b).take j) = 10 := by
  rw [sealed_length] at hj
  have hl : ((sealed b).take j).length = j := by rw [List.length_take, sealed_length]; omega
  unfold openE
  rw [hl]
  by_cases h4 : j < 4
  · rw [if_pos h4]
  · have e4 : ((sealed b).take j).take 4 = hiB 4 b.length := by rw [List.take_take, Nat.min_eq_left (by omega), sealed_take]
    rw [if_neg h4, e4, hiV_hiB 4 _ (by omega), if_neg (by omega), if_pos (by omega)]

set_option maxRecDepth 100000 in
set_option maxHeartbeats 2000000 in
theorem wireCut_any (h : Hd) (kids : Fo) (a : Option Addr) (cap : Nat) (A : Int) (w : World) (hA : (Lit.int .i64 A).wf = true) (hI : Items w a cap kids) {N : Nat} (hF : Fits h kids N) (hN1 : N ≤ 1048576) :
    Calls Try.prog 8 #[itemV h a kids.len cap, .int .i64 A] w fun e w' => e = .returned (.bool true) ∧ Below w.heap.size w w' := by
  have hwt1 := wt_of hF hN1
  have hroom := encL_room hF hN1
  have hok := ok_of hF (by omega)
  have HR := Lib.hid (room2 hF hN1)
  clear hF hN1
  obtain ⟨hk, hn, hs⟩ := h
  obtain ⟨L, HL⟩ : ∃ L, Hid (kids.len = L) := ⟨_, Lib.hid rfl⟩
  rw [HL.out]
  have hA0 := Blk.new w 24 #[.int .i64 hk, .int .i64 hn, .string hs, .slice a L cap]
  have hb0 : Below w.heap.size w (w.alloc (.cells #[.int .i64 hk, .int .i64 hn, .string hs, .slice a L cap] 24)) := (Below.refl w.heap.size w).alloc (Nat.le_refl _) _
  go_enter Try.func8, Try.ntmps8
  go_wp2_with (fail)
  refine (live_any _).mono ?_
  rintro e w1 ⟨rfl, hb1⟩
  have hA1 := hA0.below hb1 hA0.lt
  have hbw1 : Below w.heap.size w w1 := hb0.trans (hb1.mono hb0.size)
  clear hA0 hb0 hb1
  have hl1 := hA1.lt
  have x0 := hA1.cell 0
  have x1 := hA1.cell 1
  have x2 := hA1.cell 2
  have x3 := hA1.cell 3
  simp only [List.getElem?_cons_zero, List.getElem?_cons_succ] at x0 x1 x2 x3
  have hR := Blk.new w1 24 #[.int .i64 hk, .int .i64 hn, .string hs, .slice a L cap]
  have hbR : Below w1.heap.size w1 (w1.alloc (.cells #[.int .i64 hk, .int .i64 hn, .string hs, .slice a L cap] 24)) := (Below.refl _ w1).alloc (Nat.le_refl _) _
  have hIr := (hI.grown hbw1).grown hbR
  have hIt : Items (w1.alloc (.cells #[.int .i64 hk, .int .i64 hn, .string hs, .slice a L cap] 24)) (some ⟨w1.heap.size, 0, none⟩) 1 (.cons ⟨hk, hn, hs⟩ kids .nil) :=
    ⟨by simp [Fo.len], by omega, fun e => (by cases e), fun _ => ⟨_, _, rfl, hR.cell 0, hR.cell 1, hR.cell 2, ⟨a, cap, by rw [HL.out]; exact hR.cell 3, hIr.le, hIr.max, hIr.nil_, hIr.at_⟩, trivial⟩⟩
  have hbig := big_any _ _ _ _ hIt
  obtain ⟨B, HB⟩ : ∃ B, Hid (bigB (.cons ⟨hk, hn, hs⟩ kids .nil) = B) := ⟨_, Lib.hid rfl⟩
  rw [HB.out] at hbig
  simp only [Fo.len, Nat.zero_add] at hbig
  go_wp2_with (fail)
  refine hbig.mono ?_
  rintro e w3 ⟨rfl, hb3⟩
  have hb13 : Below w1.heap.size w1 w3 := hbR.trans (hb3.mono hbR.size)
  have hA3 := hA1.below hb13 hA1.lt
  have hbw3 : Below w.heap.size w w3 := hbw1.trans (hb13.mono hbw1.size)
  have hI3 := hI.grown hbw3
  clear hA1 hR hbR hIr hIt hbig hb3 hb13 hbw1 x0 x1 x2 x3 hl1
  cases B
  case true =>
    go_wp2_with (fail)
    exact bodyPost_ret (v := .bool true) (by simp [results, Try.results8, go_sem]; try rfl) rfl ⟨rfl, hbw3⟩
  have hz1 : kids.size + 1 ≤ 2000 := by
    have := HB.out
    simp [bigB] at this
    omega
  obtain ⟨E, HE⟩ : ∃ E : Int, Hid (checkE (Fo.pre 1 (.cons ⟨hk, hn, hs⟩ kids .nil)) = E) := ⟨_, Lib.hid rfl⟩
  obtain ⟨X, HX⟩ : ∃ E, Hid (encB (Fo.pre 1 (.cons ⟨hk, hn, hs⟩ kids .nil)) = E) := ⟨_, Lib.hid rfl⟩
  obtain ⟨LX, HLX⟩ : ∃ E, Hid (X.length = E) := ⟨_, Lib.hid rfl⟩
  have hcx := wencode_any ⟨hk, hn, hs⟩ kids a cap w3 hI3 (by omega) hwt1
  rw [HX.out, HLX.out, HE.out, HL.out] at hcx
  have x0 := hA3.cell 0
  have x1 := hA3.cell 1
  have x2 := hA3.cell 2
  have x3 := hA3.cell 3
  simp only [List.getElem?_cons_zero, List.getElem?_cons_succ] at x0 x1 x2 x3
  clear hwt1
  go_wp2_with (fail)
  refine hcx.mono ?_
  rintro e w4 ⟨a4, c4, rfl, ho4, hb4⟩
  have hA4 := hA3.below hb4 hA3.lt
  have hbw4 : Below w.heap.size w w4 := hbw3.trans (hb4.mono hbw3.size)
  have hx4 := ho4.bytes
  have HEB := Lib.hid (fun e => encB_bad (h := ⟨hk, hn, hs⟩) (kids := kids) e)
  have HCS := Lib.hid (fun e (j : Nat) hj => cut_short (h := ⟨hk, hn, hs⟩) (kids := kids) e hok (j := j) hj)
  have HPO := Lib.hid (fun e => encB_pos (h := ⟨hk, hn, hs⟩) (kids := kids) e)
  have HRO := Lib.hid (show checkE (Fo.pre 1 (.cons ⟨hk, hn, hs⟩ kids .nil)) = 0 → X.length ≤ 31457280 from fun e => by rw [← HX.out]; unfold encB; rw [if_pos e]; exact HR.out)
  clear x0 x1 x2 x3 hcx hA3 hI3 ho4 hroom hok hb4 hbw3 hA4
  by_cases hE : E = 0
  case neg =>
    have hX : X = [] := by rw [← HX.out]; exact HEB.out (by rw [HE.out]; exact hE)
    obtain rfl : LX = 0 := by rw [← HLX.out, hX]; rfl
    have hE1 : (E != 0) = true := by simpa using hE
    clear hE hX
    go_wp2_with (fail)
    exact bodyPost_ret (v := .bool true) (by simp [results, Try.results8, go_sem]; try rfl) rfl ⟨rfl, hbw4⟩
  have hE1 : (E != 0) = false := by simp [hE]
  have hEE := HE.out.trans hE
  have hp := HPO.out hEE
  have hro := HRO.out hEE
  have hcs := HCS.out hEE
  rw [HX.out] at hp hcs
  rw [HLX.out] at hp hro hcs
  have HCS2 := Lib.hid hcs
  clear hE hEE hcs
  have hlz : ((LX : Int) == 0) = false := by simp; omega
  obtain ⟨T, hT, hTl⟩ := at_any A (LX : Int) (by omega) (by omega)
  have hle4 := hx4.le
  have hmx4 := hx4.max
  rw [HLX.out] at hle4
  have hTc : (T : Int) ≤ (c4 : Int) := by omega
  have hpart := hx4.part (lo := 0) (hi := T) (a' := a4) (by omega) (by rw [HLX.out]; omega) (fun b off e _ => by simpa using e) (fun e => e) (fun e => e)
  simp only [List.drop_zero, Nat.sub_zero] at hpart
  have hread := wread_any a4 T c4 (X.take T) w4 hpart (by rw [List.length_take, HLX.out]; omega)
  have hrd : rdItem 40 (X.take T) = .inl 10 := HCS2.out T (by omega)
  have HRD := Lib.hid hrd
  clear hrd hpart
  go_wp2_with (fail)
  refine hread.mono ?_
  rintro e w5 ⟨hans, hb45⟩
  unfold ItemAns at hans
  rw [HRD.out] at hans
  simp only at hans
  subst hans
  have hbw5 : Below w.heap.size w w5 := hbw4.trans (hb45.mono hbw4.size)
  have hbz : Below w5.heap.size w5 (w5.alloc (.cells #[.int .i64 0, .int .i64 0, .string ⟨#[]⟩, .slice none 0 0] 24)) := (Below.refl _ w5).alloc (Nat.le_refl _) _
  have hbw6 : Below w.heap.size w (w5.alloc (.cells #[.int .i64 0, .int .i64 0, .string ⟨#[]⟩, .slice none 0 0] 24)) := hbw5.trans (hbz.mono hbw5.size)
  have hx6 := (hx4.grown hb45).grown hbz
  have hseal := wseal_n a4 LX c4 X _ hx6 HLX.out.symm (by omega)
  obtain ⟨S, HS⟩ : ∃ S, Hid (sealed X = S) := ⟨_, Lib.hid rfl⟩
  obtain ⟨LS, HLS⟩ : ∃ LS, Hid (S.length = LS) := ⟨_, Lib.hid rfl⟩
  have hls : LS = LX + 8 := by rw [← HLS.out, ← HS.out, sealed_length, HLX.out]
  rw [HS.out, HLS.out] at hseal
  have Hls := Lib.hid hls
  have hocut : ∀ j, j < LS → openE (S.take j) = 10 := fun j hj => by
    rw [← HS.out]; exact open_cut (by rw [HLX.out]; omega) (by rw [HS.out, HLS.out]; exact hj)
  have HOC := Lib.hid hocut
  clear hread hb45 hbz hx4 hx6 hocut hls hT hTl hTc hle4 hmx4 hbw5 hbw4
  go_wp2_with (fail)
  generalize (w5.alloc (.cells #[.int .i64 0, .int .i64 0, .string ⟨#[]⟩, .slice none 0 0] 24)) = w6 at hbw6 hseal ⊢
  refine hseal.mono ?_
  rintro e w7 ⟨a7, c7, rfl, ho7, hb67⟩
  have hbw7 : Below w.heap.size w w7 := hbw6.trans (hb67.mono hbw6.size)
  have hx7 := ho7.bytes
  have hls1 : 1 ≤ LS ∧ LS ≤ 31457288 := by have := Hls.out; omega
  obtain ⟨T2, hT2, hTl2⟩ := at_any A (LS : Int) (by omega) (by omega)
  have hle7 := hx7.le
  have hmx7 := hx7.max
  rw [HLS.out] at hle7
  have hTc2 : (T2 : Int) ≤ (c7 : Int) := by omega
  have hpart2 := hx7.part (lo := 0) (hi := T2) (a' := a7) (by omega) (by rw [HLS.out]; omega) (fun b off e _ => by simpa using e) (fun e => e) (fun e => e)
  simp only [List.drop_zero, Nat.sub_zero] at hpart2
  have hop := wopen_any a7 T2 c7 (S.take T2) w7 hpart2 (by rw [List.length_take, HLS.out]; omega)
  have hoe := HOC.out T2 (by omega)
  have hlsz : ((LS : Int) == 0) = false := by simp; omega
  have Hoe := Lib.hid hoe
  clear hseal hb67 hpart2 hoe hbw6 ho7 hx7
  go_wp2_with (fail)
  refine hop.mono ?_
  rintro e w8 ⟨a8, c8, rfl, ho8, hb78⟩
  rw [Hoe.out]
  have hbw8 : Below w.heap.size w w8 := hbw7.trans (hb78.mono hbw7.size)
  clear hop hb78 ho8 hbw7
  go_wp2_with (fail)
  exact bodyPost_ret (v := .bool true) (by simp [results, Try.results8, go_sem]; try rfl) rfl ⟨rfl, hbw8⟩
end Go.Proofs.Ytahibjiiaocjkaa
