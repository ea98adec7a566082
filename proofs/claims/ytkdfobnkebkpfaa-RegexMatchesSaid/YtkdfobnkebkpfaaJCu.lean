/- Texts of layer 2 joined: WCu PCu. -/
import Derived.Test.YtkdfobnkebkpfaaJHd
import Derived.Test.YtkdfobnkebkpfaaJS2
import Derived.Test.YtkdfobnkebkpfaaJN
import Derived.Test.YtkdfobnkebkpfaaJO
import Derived.Deep.RegionHeld3
import Derived.Test.YtkdfobnkebkpfaaJRr
set_option linter.unusedVariables false
set_option linter.unusedSimpArgs false
/- The law RegexCuts. -/
namespace Go.Proofs.Ytkdfobnkebkpfaa
open Go.RowKit Go.Shelf

attribute [local go_sem] Oper.semAt_some

theorem atL {α : Type} {l : List α} {i : Nat} {x : α} (h : l[i]? = some x) : l.toArray[i]? = some x := by simpa using h
theorem atZ {α : Type} {a : α} {l : List α} : (a :: l)[0]? = some a := rfl
theorem atS {α : Type} {a : α} {l : List α} {i : Nat} {x : α} (h : l[i]? = some x) : (a :: l)[i + 1]? = some x := by simpa using h

theorem match_E (ea : Ea) (s : ByteArray) (w : World) (hs : Sps w ea.sa ea.sc ea.x.h.set) (hI : Items w ea.a ea.c ea.x.k) (hz : ea.x.k.size ≤ 1000) (hn : s.size ≤ 20) :
    Calls Try.prog 26 #[.agg #[.int .i64 ea.x.h.k, .slice ea.sa ea.x.h.set.length ea.sc, .slice ea.a ea.x.k.len ea.c], .string s] w fun e w' => e = .returned (.bool (mE ea.x s.data.toList)) ∧ Below w.heap.size w w' :=
  rmatch_any ea.x.h ea.x.k ea.sa ea.sc ea.a ea.c s w hs hI (by omega) (by omega)
theorem match_duo (k : Int) (ea eb : Ea) (s : ByteArray) (bk : Nat) (w : World) (hB : Blk w bk 25 [.int .i64 ea.x.h.k, .slice ea.sa ea.x.h.set.length ea.sc, .slice ea.a ea.x.k.len ea.c, .int .i64 eb.x.h.k, .slice eb.sa eb.x.h.set.length eb.sc, .slice eb.a eb.x.k.len eb.c]) (hs : Sps w ea.sa ea.sc ea.x.h.set) (ht : Sps w eb.sa eb.sc eb.x.h.set) (hI : Items w ea.a ea.c ea.x.k) (hJ : Items w eb.a eb.c eb.x.k) (hz : ea.x.k.size ≤ 1000) (hy : eb.x.k.size ≤ 1000) (hn : s.size ≤ 20) :
    Calls Try.prog 26 #[.agg #[.int .i64 k, .slice none 0 0, .slice (some ⟨bk, 0, none⟩) 2 2], .string s] w fun e w' => e = .returned (.bool (mE (duo k ea.x eb.x) s.data.toList)) ∧ Below w.heap.size w w' := by
  have hIt : Items w (some ⟨bk, 0, none⟩) 2 (.cons ea.x.h ea.x.k (.cons eb.x.h eb.x.k .nil)) :=
    ⟨by simp [Fo.len], by omega, fun e => (by cases e), fun _ => ⟨_, _, rfl, hB.cell 0, ⟨ea.sa, ea.sc, hB.cell 1, hs⟩, ⟨ea.a, ea.c, hB.cell 2, hI.le, hI.max, hI.nil_, hI.at_⟩, hB.cell 3, ⟨eb.sa, eb.sc, hB.cell 4, ht⟩, ⟨eb.a, eb.c, hB.cell 5, hJ.le, hJ.max, hJ.nil_, hJ.at_⟩, trivial⟩⟩
  exact rmatch_any ⟨k, []⟩ (.cons ea.x.h ea.x.k (.cons eb.x.h eb.x.k .nil)) none 0 (some ⟨bk, 0, none⟩) 2 s w (Sps.nil w) hIt (by simp only [Fo.size]; omega) (by omega)
theorem match_rep (k : Int) (ea : Ea) (s : ByteArray) (bk : Nat) (w : World) (hB : Blk w bk 25 [.int .i64 ea.x.h.k, .slice ea.sa ea.x.h.set.length ea.sc, .slice ea.a ea.x.k.len ea.c]) (hs : Sps w ea.sa ea.sc ea.x.h.set) (hI : Items w ea.a ea.c ea.x.k) (hz : ea.x.k.size ≤ 1000) (hn : s.size ≤ 20) :
    Calls Try.prog 26 #[.agg #[.int .i64 k, .slice none 0 0, .slice (some ⟨bk, 0, none⟩) 1 1], .string s] w fun e w' => e = .returned (.bool (mE (rep k ea.x) s.data.toList)) ∧ Below w.heap.size w w' := by
  have hIt : Items w (some ⟨bk, 0, none⟩) 1 (.cons ea.x.h ea.x.k .nil) :=
    ⟨by simp [Fo.len], by omega, fun e => (by cases e), fun _ => ⟨_, _, rfl, hB.cell 0, ⟨ea.sa, ea.sc, hB.cell 1, hs⟩, ⟨ea.a, ea.c, hB.cell 2, hI.le, hI.max, hI.nil_, hI.at_⟩, trivial⟩⟩
  exact rmatch_any ⟨k, []⟩ (.cons ea.x.h ea.x.k .nil) none 0 (some ⟨bk, 0, none⟩) 1 s w (Sps.nil w) hIt (by simp only [Fo.size]; omega) (by omega)

theorem check_E (ea : Ea) (w : World) (hs : Sps w ea.sa ea.sc ea.x.h.set) (hI : Items w ea.a ea.c ea.x.k) (hz : ea.x.k.size ≤ 1000) :
    Calls Try.prog 15 #[.agg #[.int .i64 ea.x.h.k, .slice ea.sa ea.x.h.set.length ea.sc, .slice ea.a ea.x.k.len ea.c]] w fun e w' => e = .returned (.int .i64 (ckX ea.x)) ∧ Below w.heap.size w w' :=
  refCheck_any ea.x.h ea.x.k ea.sa ea.sc ea.a ea.c w hs hI (by omega)

theorem ext_take (s : ByteArray) (k : Nat) (hk : k ≤ s.size) : (s.extract 0 k).data.toList = s.data.toList.take k := by
  simp [ByteArray.data_extract]
theorem ext_drop (s : ByteArray) (k : Nat) (hk : k ≤ s.size) : (s.extract k s.size).data.toList = s.data.toList.drop k := by
  rw [ByteArray.data_extract, Array.toList_extract]
  simp only [List.extract]
  exact List.take_of_length_le (by rw [List.length_drop, dlen]; exact Nat.le_refl _)

set_option maxRecDepth 100000 in
set_option maxHeartbeats 1000000 in
theorem regexCuts_any (ea eb : Ea) (s : ByteArray) (w : World) (hss : Sps w ea.sa ea.sc ea.x.h.set) (hts : Sps w eb.sa eb.sc eb.x.h.set) (hI : Items w ea.a ea.c ea.x.k) (hJ : Items w eb.a eb.c eb.x.k) :
    Calls Try.prog 11 #[.agg #[.int .i64 ea.x.h.k, .slice ea.sa ea.x.h.set.length ea.sc, .slice ea.a ea.x.k.len ea.c], .agg #[.int .i64 eb.x.h.k, .slice eb.sa eb.x.h.set.length eb.sc, .slice eb.a eb.x.k.len eb.c], .string s] w fun e w' => e = .returned (.bool true) ∧ Below w.heap.size w w' := by
  have hA0 := (Blk.new w 25 #[.int .i64 ea.x.h.k, .slice ea.sa ea.x.h.set.length ea.sc, .slice ea.a ea.x.k.len ea.c]).alloc (.cells #[.int .i64 eb.x.h.k, .slice eb.sa eb.x.h.set.length eb.sc, .slice eb.a eb.x.k.len eb.c] 25)
  have hB0 := Blk.new (w.alloc (.cells #[.int .i64 ea.x.h.k, .slice ea.sa ea.x.h.set.length ea.sc, .slice ea.a ea.x.k.len ea.c] 25)) 25 #[.int .i64 eb.x.h.k, .slice eb.sa eb.x.h.set.length eb.sc, .slice eb.a eb.x.k.len eb.c]
  have hb0 : Below w.heap.size w ((w.alloc (.cells #[.int .i64 ea.x.h.k, .slice ea.sa ea.x.h.set.length ea.sc, .slice ea.a ea.x.k.len ea.c] 25)).alloc (.cells #[.int .i64 eb.x.h.k, .slice eb.sa eb.x.h.set.length eb.sc, .slice eb.a eb.x.k.len eb.c] 25)) := ((Below.refl w.heap.size w).alloc (Nat.le_refl _) _).alloc (by simp) _
  rw [show (w.alloc (.cells #[.int .i64 ea.x.h.k, .slice ea.sa ea.x.h.set.length ea.sc, .slice ea.a ea.x.k.len ea.c] 25)).heap.size = w.heap.size + 1 by simp] at hB0
  go_enter Try.func11, Try.ntmps11
  go_wp2_with (fail)
  refine (live_any _).mono ?_
  rintro e w1 ⟨rfl, hb1⟩
  have hA1 := hA0.below hb1 hA0.lt
  have hB1 := hB0.below hb1 hB0.lt
  have hbw1 := hb0.trans (hb1.mono hb0.size)
  clear hA0 hB0 hb0 hb1
  have x0 := hA1.cell 0
  have x1 := hA1.cell 1
  have x2 := hA1.cell 2
  have y0 := hB1.cell 0
  have y1 := hB1.cell 1
  have y2 := hB1.cell 2
  simp only [List.getElem?_cons_zero, List.getElem?_cons_succ] at x0 x1 x2 y0 y1 y2
  have xl := hA1.lt
  have yl := hB1.lt
  go_wp2_with (fail)
  refine (hard_any ea s w1 (hss.grown hbw1) (hI.grown hbw1)).mono ?_
  rintro e w2 ⟨rfl, hb2⟩
  have hA2 := hA1.below hb2 hA1.lt
  have hB2 := hB1.below hb2 hB1.lt
  have hbw2 := hbw1.trans (hb2.mono hbw1.size)
  clear hA1 hB1 hbw1 hb2 x0 x1 x2 y0 y1 y2 xl yl
  have x0 := hA2.cell 0
  have x1 := hA2.cell 1
  have x2 := hA2.cell 2
  have y0 := hB2.cell 0
  have y1 := hB2.cell 1
  have y2 := hB2.cell 2
  simp only [List.getElem?_cons_zero, List.getElem?_cons_succ] at x0 x1 x2 y0 y1 y2
  have xl := hA2.lt
  have yl := hB2.lt
  obtain ⟨Ha, hHa⟩ : ∃ b, Hid (hardE ea.x s.size = b) := ⟨_, Lib.hid rfl⟩
  rw [hHa.out]
  cases Ha
  case true =>
    go_wp2_with (fail)
    exact bodyPost_ret (v := .bool true) (by simp [results, Try.results11, go_sem]; try rfl) rfl ⟨rfl, hbw2⟩
  go_wp2_with (fail)
  refine (hard_any eb s w2 (hts.grown hbw2) (hJ.grown hbw2)).mono ?_
  rintro e w3 ⟨rfl, hb3⟩
  have hA3 := hA2.below hb3 hA2.lt
  have hB3 := hB2.below hb3 hB2.lt
  have hbw3 := hbw2.trans (hb3.mono hbw2.size)
  clear hA2 hB2 hbw2 hb3 x0 x1 x2 y0 y1 y2 xl yl
  have x0 := hA3.cell 0
  have x1 := hA3.cell 1
  have x2 := hA3.cell 2
  have y0 := hB3.cell 0
  have y1 := hB3.cell 1
  have y2 := hB3.cell 2
  simp only [List.getElem?_cons_zero, List.getElem?_cons_succ] at x0 x1 x2 y0 y1 y2
  have xl := hA3.lt
  have yl := hB3.lt
  obtain ⟨Hb, hHb⟩ : ∃ b, Hid (hardE eb.x s.size = b) := ⟨_, Lib.hid rfl⟩
  rw [hHb.out]
  cases Hb
  case true =>
    go_wp2_with (fail)
    exact bodyPost_ret (v := .bool true) (by simp [results, Try.results11, go_sem]; try rfl) rfl ⟨rfl, hbw3⟩
  obtain ⟨hza, hsn⟩ := hardE_no hHa.out
  obtain ⟨hzb, _⟩ := hardE_no hHb.out
  go_wp2_with (fail)
  refine (check_E ea w3 (hss.grown hbw3) (hI.grown hbw3) (by omega)).mono ?_
  rintro e w4 ⟨rfl, hb4⟩
  have hA4 := hA3.below hb4 hA3.lt
  have hB4 := hB3.below hb4 hB3.lt
  have hbw4 := hbw3.trans (hb4.mono hbw3.size)
  clear hA3 hB3 hbw3 hb4 x0 x1 x2 y0 y1 y2 xl yl
  have x0 := hA4.cell 0
  have x1 := hA4.cell 1
  have x2 := hA4.cell 2
  have y0 := hB4.cell 0
  have y1 := hB4.cell 1
  have y2 := hB4.cell 2
  simp only [List.getElem?_cons_zero, List.getElem?_cons_succ] at x0 x1 x2 y0 y1 y2
  have xl := hA4.lt
  have yl := hB4.lt
  obtain ⟨Ca, hCa⟩ : ∃ b, Hid (ckX ea.x = b) := ⟨_, Lib.hid rfl⟩
  rw [hCa.out]
  by_cases hca : Ca = 0
  case neg =>
    have hcaI : (Ca != 0) = true := by simp [hca]
    go_wp2_with (fail)
    exact bodyPost_ret (v := .bool true) (by simp [results, Try.results11, go_sem]; try rfl) rfl ⟨rfl, hbw4⟩
  have hcaI : (Ca != 0) = false := by simp [hca]
  have hka : Hid (ckX ea.x ≠ 1) := Lib.hid (by rw [hCa.out, hca]; decide)
  clear hca
  go_wp2_with (fail)
  refine (check_E eb w4 (hts.grown hbw4) (hJ.grown hbw4) (by omega)).mono ?_
  rintro e w5 ⟨rfl, hb5⟩
  have hA5 := hA4.below hb5 hA4.lt
  have hB5 := hB4.below hb5 hB4.lt
  have hbw5 := hbw4.trans (hb5.mono hbw4.size)
  clear hA4 hB4 hbw4 hb5 x0 x1 x2 y0 y1 y2 xl yl
  have x0 := hA5.cell 0
  have x1 := hA5.cell 1
  have x2 := hA5.cell 2
  have y0 := hB5.cell 0
  have y1 := hB5.cell 1
  have y2 := hB5.cell 2
  simp only [List.getElem?_cons_zero, List.getElem?_cons_succ] at x0 x1 x2 y0 y1 y2
  have xl := hA5.lt
  have yl := hB5.lt
  obtain ⟨Cb, hCb⟩ : ∃ b, Hid (ckX eb.x = b) := ⟨_, Lib.hid rfl⟩
  rw [hCb.out]
  by_cases hcb : Cb = 0
  case neg =>
    have hcbI : (Cb != 0) = true := by simp [hcb]
    go_wp2_with (fail)
    exact bodyPost_ret (v := .bool true) (by simp [results, Try.results11, go_sem]; try rfl) rfl ⟨rfl, hbw5⟩
  have hcbI : (Cb != 0) = false := by simp [hcb]
  have hkb : Hid (ckX eb.x ≠ 1) := Lib.hid (by rw [hCb.out, hcb]; decide)
  clear hcb
  obtain ⟨T, hT⟩ : ∃ T, Hid (cutB ea.x eb.x s.data.toList = T) := ⟨_, Lib.hid rfl⟩
  have hT0 : Hid (T 0 = false) := Lib.hid (by rw [← hT.out]; rfl)
  have hTs : Hid (∀ k, T (k + 1) = (T k || (mE ea.x (s.data.toList.take k) && mE eb.x (s.data.toList.drop k)))) := Lib.hid (fun k => by rw [← hT.out]; exact cutB_succ _ _ _ _)
  have hss5 := hss.grown hbw5
  have hts5 := hts.grown hbw5
  have hI5 := hI.grown hbw5
  have hJ5 := hJ.grown hbw5
  have hKeep : ∀ w', Below w5.heap.size w5 w' → (Below w5.heap.size w5 w' ∧ w'.cell? ⟨w.heap.size, 0, none⟩ = some (.int .i64 ea.x.h.k) ∧ w'.cell? ⟨w.heap.size, 1, none⟩ = some (.slice ea.sa ea.x.h.set.length ea.sc) ∧ w'.cell? ⟨w.heap.size, 2, none⟩ = some (.slice ea.a ea.x.k.len ea.c) ∧ w'.cell? ⟨w.heap.size + 1, 0, none⟩ = some (.int .i64 eb.x.h.k) ∧ w'.cell? ⟨w.heap.size + 1, 1, none⟩ = some (.slice eb.sa eb.x.h.set.length eb.sc) ∧ w'.cell? ⟨w.heap.size + 1, 2, none⟩ = some (.slice eb.a eb.x.k.len eb.c)) := fun w' hb => by
    have k1 := hA5.below hb hA5.lt
    have k2 := hB5.below hb hB5.lt
    exact ⟨hb, k1.cell 0, k1.cell 1, k1.cell 2, k2.cell 0, k2.cell 1, k2.cell 2⟩
  have HK := Lib.hid hKeep
  clear hKeep
  go_wp2_with (fail)
  go_loopw [8, 33] (fun cv iv wr => ∃ k : Nat, k ≤ s.size + 1 ∧ iv = .int .i64 (k : Int) ∧ cv = .bool (T k) ∧ Below w5.heap.size w5 wr) (fun _ iv _ => s.size + 1 - (intOf iv).toNat)
  case atStart => exact ⟨0, by omega, rfl, by rw [hT0.out], Below.refl _ w5⟩
  case round =>
    obtain ⟨k, hk, rfl, rfl, hbr⟩ := hrel
    by_cases hlt : k < s.size + 1
    · have hkI : (k : Int) < (s.size : Int) + 1 := by omega
      have hkn : k ≤ s.size := by omega
      have hTk := hTs.out k
      obtain ⟨P, hP⟩ : ∃ P, Hid (mE ea.x (s.data.toList.take k) = P) := ⟨_, Lib.hid rfl⟩
      obtain ⟨Q, hQ⟩ : ∃ Q, Hid (mE eb.x (s.data.toList.drop k) = Q) := ⟨_, Lib.hid rfl⟩
      rw [hP.out, hQ.out] at hTk
      obtain ⟨C, hC⟩ : ∃ C, Hid (T k = C) := ⟨_, Lib.hid rfl⟩
      obtain ⟨C1, hC1⟩ : ∃ C, Hid (T (k + 1) = C) := ⟨_, Lib.hid rfl⟩
      rw [hC.out, hC1.out] at hTk
      rw [hC.out]
      have HTk := Lib.hid hTk
      clear hTk
      have hArr := hA5.below hbr hA5.lt
      have hBrr := hB5.below hbr hB5.lt
      have hbwr := hbw5.trans (hbr.mono hbw5.size)
      have hKeep : ∀ w', Below wr.heap.size wr w' → (Below wr.heap.size wr w' ∧ w'.cell? ⟨w.heap.size, 0, none⟩ = some (.int .i64 ea.x.h.k) ∧ w'.cell? ⟨w.heap.size, 1, none⟩ = some (.slice ea.sa ea.x.h.set.length ea.sc) ∧ w'.cell? ⟨w.heap.size, 2, none⟩ = some (.slice ea.a ea.x.k.len ea.c) ∧ w'.cell? ⟨w.heap.size + 1, 0, none⟩ = some (.int .i64 eb.x.h.k) ∧ w'.cell? ⟨w.heap.size + 1, 1, none⟩ = some (.slice eb.sa eb.x.h.set.length eb.sc) ∧ w'.cell? ⟨w.heap.size + 1, 2, none⟩ = some (.slice eb.a eb.x.k.len eb.c)) := fun w' hb => by
        have k1 := hArr.below hb hArr.lt
        have k2 := hBrr.below hb hBrr.lt
        exact ⟨hb, k1.cell 0, k1.cell 1, k1.cell 2, k2.cell 0, k2.cell 1, k2.cell 2⟩
      have hS0 := hKeep wr.drew ((Below.refl _ wr).drew)
      have cA : ∀ w', (Below wr.heap.size wr w' ∧ w'.cell? ⟨w.heap.size, 0, none⟩ = some (.int .i64 ea.x.h.k) ∧ w'.cell? ⟨w.heap.size, 1, none⟩ = some (.slice ea.sa ea.x.h.set.length ea.sc) ∧ w'.cell? ⟨w.heap.size, 2, none⟩ = some (.slice ea.a ea.x.k.len ea.c) ∧ w'.cell? ⟨w.heap.size + 1, 0, none⟩ = some (.int .i64 eb.x.h.k) ∧ w'.cell? ⟨w.heap.size + 1, 1, none⟩ = some (.slice eb.sa eb.x.h.set.length eb.sc) ∧ w'.cell? ⟨w.heap.size + 1, 2, none⟩ = some (.slice eb.a eb.x.k.len eb.c)) → Calls Try.prog 26 #[.agg #[.int .i64 ea.x.h.k, .slice ea.sa ea.x.h.set.length ea.sc, .slice ea.a ea.x.k.len ea.c], .string (s.extract 0 k)] w' fun e w6 => e = .returned (.bool P) ∧ (Below wr.heap.size wr w6 ∧ w6.cell? ⟨w.heap.size, 0, none⟩ = some (.int .i64 ea.x.h.k) ∧ w6.cell? ⟨w.heap.size, 1, none⟩ = some (.slice ea.sa ea.x.h.set.length ea.sc) ∧ w6.cell? ⟨w.heap.size, 2, none⟩ = some (.slice ea.a ea.x.k.len ea.c) ∧ w6.cell? ⟨w.heap.size + 1, 0, none⟩ = some (.int .i64 eb.x.h.k) ∧ w6.cell? ⟨w.heap.size + 1, 1, none⟩ = some (.slice eb.sa eb.x.h.set.length eb.sc) ∧ w6.cell? ⟨w.heap.size + 1, 2, none⟩ = some (.slice eb.a eb.x.k.len eb.c)) := fun w' hS => by
        have hc := match_E ea (s.extract 0 k) w' (hss.grown (hbwr.trans (hS.1.mono hbwr.size))) (hI.grown (hbwr.trans (hS.1.mono hbwr.size))) (by omega) (by simp; omega)
        rw [ext_take s k hkn, hP.out] at hc
        exact hc.mono fun e w6 hp => ⟨hp.1, hKeep w6 (hS.1.trans (hp.2.mono hS.1.size))⟩
      have cB : ∀ w', (Below wr.heap.size wr w' ∧ w'.cell? ⟨w.heap.size, 0, none⟩ = some (.int .i64 ea.x.h.k) ∧ w'.cell? ⟨w.heap.size, 1, none⟩ = some (.slice ea.sa ea.x.h.set.length ea.sc) ∧ w'.cell? ⟨w.heap.size, 2, none⟩ = some (.slice ea.a ea.x.k.len ea.c) ∧ w'.cell? ⟨w.heap.size + 1, 0, none⟩ = some (.int .i64 eb.x.h.k) ∧ w'.cell? ⟨w.heap.size + 1, 1, none⟩ = some (.slice eb.sa eb.x.h.set.length eb.sc) ∧ w'.cell? ⟨w.heap.size + 1, 2, none⟩ = some (.slice eb.a eb.x.k.len eb.c)) → Calls Try.prog 26 #[.agg #[.int .i64 eb.x.h.k, .slice eb.sa eb.x.h.set.length eb.sc, .slice eb.a eb.x.k.len eb.c], .string (s.extract k s.size)] w' fun e w6 => e = .returned (.bool Q) ∧ (Below wr.heap.size wr w6 ∧ w6.cell? ⟨w.heap.size, 0, none⟩ = some (.int .i64 ea.x.h.k) ∧ w6.cell? ⟨w.heap.size, 1, none⟩ = some (.slice ea.sa ea.x.h.set.length ea.sc) ∧ w6.cell? ⟨w.heap.size, 2, none⟩ = some (.slice ea.a ea.x.k.len ea.c) ∧ w6.cell? ⟨w.heap.size + 1, 0, none⟩ = some (.int .i64 eb.x.h.k) ∧ w6.cell? ⟨w.heap.size + 1, 1, none⟩ = some (.slice eb.sa eb.x.h.set.length eb.sc) ∧ w6.cell? ⟨w.heap.size + 1, 2, none⟩ = some (.slice eb.a eb.x.k.len eb.c)) := fun w' hS => by
        have hc := match_E eb (s.extract k s.size) w' (hts.grown (hbwr.trans (hS.1.mono hbwr.size))) (hJ.grown (hbwr.trans (hS.1.mono hbwr.size))) (by omega) (by simp; omega)
        rw [ext_drop s k hkn, hQ.out] at hc
        exact hc.mono fun e w6 hp => ⟨hp.1, hKeep w6 (hS.1.trans (hp.2.mono hS.1.size))⟩
      clear hArr hBrr hKeep hss5 hts5 hI5 hJ5
      have hkI3 : (k : Int) ≤ (s.size : Int) := by omega
      cases C
      case true =>
        go_wp2_with (fail)
        refine wp_region_held_drew (S := fun w' => (Below wr.heap.size wr w' ∧ w'.cell? ⟨w.heap.size, 0, none⟩ = some (.int .i64 ea.x.h.k) ∧ w'.cell? ⟨w.heap.size, 1, none⟩ = some (.slice ea.sa ea.x.h.set.length ea.sc) ∧ w'.cell? ⟨w.heap.size, 2, none⟩ = some (.slice ea.a ea.x.k.len ea.c) ∧ w'.cell? ⟨w.heap.size + 1, 0, none⟩ = some (.int .i64 eb.x.h.k) ∧ w'.cell? ⟨w.heap.size + 1, 1, none⟩ = some (.slice eb.sa eb.x.h.set.length eb.sc) ∧ w'.cell? ⟨w.heap.size + 1, 2, none⟩ = some (.slice eb.a eb.x.k.len eb.c))) (by kernel_rfl) ?_ (fun hHeld => ?_)
        · exact hS0
        refine wpAnyH_take (i := 0) (v := ?_) (atL atZ) (by kernel_rfl) (by kernel_rfl) (by kernel_rfl) (fun _ _ _ h => h) (Or.inl ⟨by rfl, ?_⟩) (by assumption) ?_
        rotate_left
        · intro w hSw
          try dsimp only at hSw
          go_simp
          all_goals with_reducible rfl
        try simp only [Act.put, List.setIfInBounds_toArray, List.set_cons_zero, List.set_cons_succ]
        refine wpAnyH_take (i := 1) (v := ?_) (atL (atS atZ)) (by kernel_rfl) (by kernel_rfl) (by kernel_rfl) (fun _ _ _ h => h) (Or.inl ⟨by rfl, ?_⟩) (by assumption) ?_
        rotate_left
        · intro w hSw
          try dsimp only at hSw
          go_simp
          all_goals with_reducible rfl
        try simp only [Act.put, List.setIfInBounds_toArray, List.set_cons_zero, List.set_cons_succ]
        refine wpAnyH_take (i := 2) (v := undef) (atL (atS (atS atZ))) (by kernel_rfl) (by kernel_rfl) (by kernel_rfl) (fun _ _ _ h => h) (Or.inr ⟨by rfl, rfl⟩) (by assumption) ?_
        try simp only [Act.put, List.setIfInBounds_toArray, List.set_cons_zero, List.set_cons_succ]
        refine wpAnyH_take (i := 3) (v := undef) (atL (atS (atS (atS atZ)))) (by kernel_rfl) (by kernel_rfl) (by kernel_rfl) (fun _ _ _ h => h) (Or.inr ⟨by rfl, rfl⟩) (by assumption) ?_
        try simp only [Act.put, List.setIfInBounds_toArray, List.set_cons_zero, List.set_cons_succ]
        refine wpAnyH_take (i := 4) (v := undef) (atL (atS (atS (atS (atS atZ))))) (by kernel_rfl) (by kernel_rfl) (by kernel_rfl) (fun _ _ _ h => h) (Or.inr ⟨by rfl, rfl⟩) (by assumption) ?_
        try simp only [Act.put, List.setIfInBounds_toArray, List.set_cons_zero, List.set_cons_succ]
        refine wpAnyH_take (i := 5) (v := undef) (atL (atS (atS (atS (atS (atS atZ)))))) (by kernel_rfl) (by kernel_rfl) (by kernel_rfl) (fun _ _ _ h => h) (Or.inr ⟨by rfl, rfl⟩) (by assumption) ?_
        try simp only [Act.put, List.setIfInBounds_toArray, List.set_cons_zero, List.set_cons_succ]
        refine wpAnyH_take (i := 6) (v := undef) (atL (atS (atS (atS (atS (atS (atS atZ))))))) (by kernel_rfl) (by kernel_rfl) (by kernel_rfl) (fun _ _ _ h => h) (Or.inr ⟨by rfl, rfl⟩) (by assumption) ?_
        try simp only [Act.put, List.setIfInBounds_toArray, List.set_cons_zero, List.set_cons_succ]
        refine wpAnyH_take (i := 7) (v := undef) (atL (atS (atS (atS (atS (atS (atS (atS atZ)))))))) (by kernel_rfl) (by kernel_rfl) (by kernel_rfl) (fun _ _ _ h => h) (Or.inr ⟨by rfl, rfl⟩) (by assumption) ?_
        try simp only [Act.put, List.setIfInBounds_toArray, List.set_cons_zero, List.set_cons_succ]
        refine wpAnyH_take (i := 8) (v := undef) (atL (atS (atS (atS (atS (atS (atS (atS (atS atZ))))))))) (by kernel_rfl) (by kernel_rfl) (by kernel_rfl) (fun _ _ _ h => h) (Or.inr ⟨by rfl, rfl⟩) (by assumption) ?_
        try simp only [Act.put, List.setIfInBounds_toArray, List.set_cons_zero, List.set_cons_succ]
        refine wpAnyH_take (i := 9) (v := undef) (atL (atS (atS (atS (atS (atS (atS (atS (atS (atS atZ)))))))))) (by kernel_rfl) (by kernel_rfl) (by kernel_rfl) (fun _ _ _ h => h) (Or.inr ⟨by rfl, rfl⟩) (by assumption) ?_
        try simp only [Act.put, List.setIfInBounds_toArray, List.set_cons_zero, List.set_cons_succ]
        refine wpAnyH_take (i := 10) (v := undef) (atL (atS (atS (atS (atS (atS (atS (atS (atS (atS (atS atZ))))))))))) (by kernel_rfl) (by kernel_rfl) (by kernel_rfl) (fun _ _ _ h => h) (Or.inr ⟨by rfl, rfl⟩) (by assumption) ?_
        try simp only [Act.put, List.setIfInBounds_toArray, List.set_cons_zero, List.set_cons_succ]
        refine wpAnyH_take (i := 11) (v := undef) (atL (atS (atS (atS (atS (atS (atS (atS (atS (atS (atS (atS atZ)))))))))))) (by kernel_rfl) (by kernel_rfl) (by kernel_rfl) (fun _ _ _ h => h) (Or.inr ⟨by rfl, rfl⟩) (by assumption) ?_
        try simp only [Act.put, List.setIfInBounds_toArray, List.set_cons_zero, List.set_cons_succ]
        refine wpAnyH_take (i := 12) (v := undef) (atL (atS (atS (atS (atS (atS (atS (atS (atS (atS (atS (atS (atS atZ))))))))))))) (by kernel_rfl) (by kernel_rfl) (by kernel_rfl) (fun _ _ _ h => h) (Or.inr ⟨by rfl, rfl⟩) (by assumption) ?_
        try simp only [Act.put, List.setIfInBounds_toArray, List.set_cons_zero, List.set_cons_succ]
        refine wpAnyH_take (i := 13) (v := undef) (atL (atS (atS (atS (atS (atS (atS (atS (atS (atS (atS (atS (atS (atS atZ)))))))))))))) (by kernel_rfl) (by kernel_rfl) (by kernel_rfl) (fun _ _ _ h => h) (Or.inr ⟨by rfl, rfl⟩) (by assumption) ?_
        try simp only [Act.put, List.setIfInBounds_toArray, List.set_cons_zero, List.set_cons_succ]
        refine wpAnyH_take (i := 14) (v := ?_) (atL (atS (atS (atS (atS (atS (atS (atS (atS (atS (atS (atS (atS (atS (atS atZ))))))))))))))) (by kernel_rfl) (by kernel_rfl) (by kernel_rfl) (fun _ _ _ h => h) (Or.inl ⟨by rfl, ?_⟩) (by assumption) ?_
        rotate_left
        · intro w hSw
          try dsimp only at hSw
          go_simp
          all_goals with_reducible rfl
        try simp only [Act.put, List.setIfInBounds_toArray, List.set_cons_zero, List.set_cons_succ]
        refine wpAnyH_take (i := 15) (v := ?_) (atL (atS (atS (atS (atS (atS (atS (atS (atS (atS (atS (atS (atS (atS (atS (atS atZ)))))))))))))))) (by kernel_rfl) (by kernel_rfl) (by kernel_rfl) (fun _ _ _ h => h) (Or.inl ⟨by rfl, ?_⟩) (by assumption) ?_
        rotate_left
        · intro w hSw
          try dsimp only at hSw
          go_simp
          all_goals with_reducible rfl
        try simp only [Act.put, List.setIfInBounds_toArray, List.set_cons_zero, List.set_cons_succ]
        refine wpAnyH_done (by kernel_rfl) ?_ _
        go_wp2_with (fail)
        refine ⟨⟨k + 1, by omega, by simp, by rw [hC1.out, HTk.out]; rfl, hbr.trans ((hHeld).1.mono hbr.size)⟩, by simp [intOf]; omega⟩
      cases P
      case false =>
        go_wp2_with (fail)
        refine wp_region_held_drew (S := fun w' => (Below wr.heap.size wr w' ∧ w'.cell? ⟨w.heap.size, 0, none⟩ = some (.int .i64 ea.x.h.k) ∧ w'.cell? ⟨w.heap.size, 1, none⟩ = some (.slice ea.sa ea.x.h.set.length ea.sc) ∧ w'.cell? ⟨w.heap.size, 2, none⟩ = some (.slice ea.a ea.x.k.len ea.c) ∧ w'.cell? ⟨w.heap.size + 1, 0, none⟩ = some (.int .i64 eb.x.h.k) ∧ w'.cell? ⟨w.heap.size + 1, 1, none⟩ = some (.slice eb.sa eb.x.h.set.length eb.sc) ∧ w'.cell? ⟨w.heap.size + 1, 2, none⟩ = some (.slice eb.a eb.x.k.len eb.c))) (by kernel_rfl) ?_ (fun hHeld => ?_)
        · exact hS0
        refine wpAnyH_take (i := 0) (v := ?_) (atL atZ) (by kernel_rfl) (by kernel_rfl) (by kernel_rfl) (fun _ _ _ h => h) (Or.inl ⟨by rfl, ?_⟩) (by assumption) ?_
        rotate_left
        · intro w hSw
          try dsimp only at hSw
          go_simp
          all_goals with_reducible rfl
        try simp only [Act.put, List.setIfInBounds_toArray, List.set_cons_zero, List.set_cons_succ]
        refine wpAnyH_take (i := 1) (v := ?_) (atL (atS atZ)) (by kernel_rfl) (by kernel_rfl) (by kernel_rfl) (fun _ _ _ h => h) (Or.inl ⟨by rfl, ?_⟩) (by assumption) ?_
        rotate_left
        · intro w hSw
          try dsimp only at hSw
          go_simp
          all_goals with_reducible rfl
        try simp only [Act.put, List.setIfInBounds_toArray, List.set_cons_zero, List.set_cons_succ]
        refine wpAnyH_take (i := 2) (v := ?_) (atL (atS (atS atZ))) (by kernel_rfl) (by kernel_rfl) (by kernel_rfl) (fun _ _ _ h => h) (Or.inl ⟨by rfl, ?_⟩) (by assumption) ?_
        rotate_left
        · intro w hSw
          try dsimp only at hSw
          go_simp
          all_goals with_reducible rfl
        try simp only [Act.put, List.setIfInBounds_toArray, List.set_cons_zero, List.set_cons_succ]
        refine wpAnyH_take (i := 3) (v := ?_) (atL (atS (atS (atS atZ)))) (by kernel_rfl) (by kernel_rfl) (by kernel_rfl) (fun _ _ _ h => h) (Or.inl ⟨by rfl, ?_⟩) (by assumption) ?_
        rotate_left
        · intro w hSw
          try dsimp only at hSw
          go_simp
          all_goals with_reducible rfl
        try simp only [Act.put, List.setIfInBounds_toArray, List.set_cons_zero, List.set_cons_succ]
        refine wpAnyH_take (i := 4) (v := ?_) (atL (atS (atS (atS (atS atZ))))) (by kernel_rfl) (by kernel_rfl) (by kernel_rfl) (fun _ _ _ h => h) (Or.inl ⟨by rfl, ?_⟩) (by assumption) ?_
        rotate_left
        · intro w hSw
          try dsimp only at hSw
          go_simp
          all_goals with_reducible rfl
        try simp only [Act.put, List.setIfInBounds_toArray, List.set_cons_zero, List.set_cons_succ]
        refine wpAnyH_take (i := 5) (v := ?_) (atL (atS (atS (atS (atS (atS atZ)))))) (by kernel_rfl) (by kernel_rfl) (by kernel_rfl) (fun _ _ _ h => h) (Or.inl ⟨by rfl, ?_⟩) (by assumption) ?_
        rotate_left
        · intro w hSw
          try dsimp only at hSw
          go_simp
          all_goals with_reducible rfl
        try simp only [Act.put, List.setIfInBounds_toArray, List.set_cons_zero, List.set_cons_succ]
        refine wpAnyH_ready (rs := [6]) (by kernel_rfl) (by simp) ?_
        refine AllReadyH.cons (atL (atS (atS (atS (atS (atS (atS atZ))))))) (fun K hK => ?_) AllReadyH.nil
        go_simp
        go_at_call 26
        (with_reducible refine (cA _ (by assumption)).mono ?_)
        rintro e w6 ⟨rfl, hS6⟩
        refine hK.out _ _ ?_ (fun hHeld => ?_)
        · exact hS6
        clear hK K
        try simp only [Act.put, List.setIfInBounds_toArray, List.set_cons_zero, List.set_cons_succ]
        refine wpAnyH_take (i := 7) (v := ?_) (atL (atS (atS (atS (atS (atS (atS (atS atZ)))))))) (by kernel_rfl) (by kernel_rfl) (by kernel_rfl) (fun _ _ _ h => h) (Or.inl ⟨by rfl, ?_⟩) (by assumption) ?_
        rotate_left
        · intro w hSw
          try dsimp only at hSw
          go_simp
          all_goals with_reducible rfl
        try simp only [Act.put, List.setIfInBounds_toArray, List.set_cons_zero, List.set_cons_succ]
        refine wpAnyH_take (i := 8) (v := undef) (atL (atS (atS (atS (atS (atS (atS (atS (atS atZ))))))))) (by kernel_rfl) (by kernel_rfl) (by kernel_rfl) (fun _ _ _ h => h) (Or.inr ⟨by rfl, rfl⟩) (by assumption) ?_
        try simp only [Act.put, List.setIfInBounds_toArray, List.set_cons_zero, List.set_cons_succ]
        refine wpAnyH_take (i := 9) (v := undef) (atL (atS (atS (atS (atS (atS (atS (atS (atS (atS atZ)))))))))) (by kernel_rfl) (by kernel_rfl) (by kernel_rfl) (fun _ _ _ h => h) (Or.inr ⟨by rfl, rfl⟩) (by assumption) ?_
        try simp only [Act.put, List.setIfInBounds_toArray, List.set_cons_zero, List.set_cons_succ]
        refine wpAnyH_take (i := 10) (v := undef) (atL (atS (atS (atS (atS (atS (atS (atS (atS (atS (atS atZ))))))))))) (by kernel_rfl) (by kernel_rfl) (by kernel_rfl) (fun _ _ _ h => h) (Or.inr ⟨by rfl, rfl⟩) (by assumption) ?_
        try simp only [Act.put, List.setIfInBounds_toArray, List.set_cons_zero, List.set_cons_succ]
        refine wpAnyH_take (i := 11) (v := undef) (atL (atS (atS (atS (atS (atS (atS (atS (atS (atS (atS (atS atZ)))))))))))) (by kernel_rfl) (by kernel_rfl) (by kernel_rfl) (fun _ _ _ h => h) (Or.inr ⟨by rfl, rfl⟩) (by assumption) ?_
        try simp only [Act.put, List.setIfInBounds_toArray, List.set_cons_zero, List.set_cons_succ]
        refine wpAnyH_take (i := 12) (v := undef) (atL (atS (atS (atS (atS (atS (atS (atS (atS (atS (atS (atS (atS atZ))))))))))))) (by kernel_rfl) (by kernel_rfl) (by kernel_rfl) (fun _ _ _ h => h) (Or.inr ⟨by rfl, rfl⟩) (by assumption) ?_
        try simp only [Act.put, List.setIfInBounds_toArray, List.set_cons_zero, List.set_cons_succ]
        refine wpAnyH_take (i := 13) (v := ?_) (atL (atS (atS (atS (atS (atS (atS (atS (atS (atS (atS (atS (atS (atS atZ)))))))))))))) (by kernel_rfl) (by kernel_rfl) (by kernel_rfl) (fun _ _ _ h => h) (Or.inl ⟨by rfl, ?_⟩) (by assumption) ?_
        rotate_left
        · intro w hSw
          try dsimp only at hSw
          go_simp
          all_goals with_reducible rfl
        try simp only [Act.put, List.setIfInBounds_toArray, List.set_cons_zero, List.set_cons_succ]
        refine wpAnyH_take (i := 14) (v := ?_) (atL (atS (atS (atS (atS (atS (atS (atS (atS (atS (atS (atS (atS (atS (atS atZ))))))))))))))) (by kernel_rfl) (by kernel_rfl) (by kernel_rfl) (fun _ _ _ h => h) (Or.inl ⟨by rfl, ?_⟩) (by assumption) ?_
        rotate_left
        · intro w hSw
          try dsimp only at hSw
          go_simp
          all_goals with_reducible rfl
        try simp only [Act.put, List.setIfInBounds_toArray, List.set_cons_zero, List.set_cons_succ]
        refine wpAnyH_take (i := 15) (v := ?_) (atL (atS (atS (atS (atS (atS (atS (atS (atS (atS (atS (atS (atS (atS (atS (atS atZ)))))))))))))))) (by kernel_rfl) (by kernel_rfl) (by kernel_rfl) (fun _ _ _ h => h) (Or.inl ⟨by rfl, ?_⟩) (by assumption) ?_
        rotate_left
        · intro w hSw
          try dsimp only at hSw
          go_simp
          all_goals with_reducible rfl
        try simp only [Act.put, List.setIfInBounds_toArray, List.set_cons_zero, List.set_cons_succ]
        refine wpAnyH_done (by kernel_rfl) ?_ _
        go_wp2_with (fail)
        refine ⟨⟨k + 1, by omega, by simp, by rw [hC1.out, HTk.out]; rfl, hbr.trans ((hHeld).1.mono hbr.size)⟩, by simp [intOf]; omega⟩
      case true =>
        go_wp2_with (fail)
        refine wp_region_held_drew (S := fun w' => (Below wr.heap.size wr w' ∧ w'.cell? ⟨w.heap.size, 0, none⟩ = some (.int .i64 ea.x.h.k) ∧ w'.cell? ⟨w.heap.size, 1, none⟩ = some (.slice ea.sa ea.x.h.set.length ea.sc) ∧ w'.cell? ⟨w.heap.size, 2, none⟩ = some (.slice ea.a ea.x.k.len ea.c) ∧ w'.cell? ⟨w.heap.size + 1, 0, none⟩ = some (.int .i64 eb.x.h.k) ∧ w'.cell? ⟨w.heap.size + 1, 1, none⟩ = some (.slice eb.sa eb.x.h.set.length eb.sc) ∧ w'.cell? ⟨w.heap.size + 1, 2, none⟩ = some (.slice eb.a eb.x.k.len eb.c))) (by kernel_rfl) ?_ (fun hHeld => ?_)
        · exact hS0
        refine wpAnyH_take (i := 0) (v := ?_) (atL atZ) (by kernel_rfl) (by kernel_rfl) (by kernel_rfl) (fun _ _ _ h => h) (Or.inl ⟨by rfl, ?_⟩) (by assumption) ?_
        rotate_left
        · intro w hSw
          try dsimp only at hSw
          go_simp
          all_goals with_reducible rfl
        try simp only [Act.put, List.setIfInBounds_toArray, List.set_cons_zero, List.set_cons_succ]
        refine wpAnyH_take (i := 1) (v := ?_) (atL (atS atZ)) (by kernel_rfl) (by kernel_rfl) (by kernel_rfl) (fun _ _ _ h => h) (Or.inl ⟨by rfl, ?_⟩) (by assumption) ?_
        rotate_left
        · intro w hSw
          try dsimp only at hSw
          go_simp
          all_goals with_reducible rfl
        try simp only [Act.put, List.setIfInBounds_toArray, List.set_cons_zero, List.set_cons_succ]
        refine wpAnyH_take (i := 2) (v := ?_) (atL (atS (atS atZ))) (by kernel_rfl) (by kernel_rfl) (by kernel_rfl) (fun _ _ _ h => h) (Or.inl ⟨by rfl, ?_⟩) (by assumption) ?_
        rotate_left
        · intro w hSw
          try dsimp only at hSw
          go_simp
          all_goals with_reducible rfl
        try simp only [Act.put, List.setIfInBounds_toArray, List.set_cons_zero, List.set_cons_succ]
        refine wpAnyH_take (i := 3) (v := ?_) (atL (atS (atS (atS atZ)))) (by kernel_rfl) (by kernel_rfl) (by kernel_rfl) (fun _ _ _ h => h) (Or.inl ⟨by rfl, ?_⟩) (by assumption) ?_
        rotate_left
        · intro w hSw
          try dsimp only at hSw
          go_simp
          all_goals with_reducible rfl
        try simp only [Act.put, List.setIfInBounds_toArray, List.set_cons_zero, List.set_cons_succ]
        refine wpAnyH_take (i := 4) (v := ?_) (atL (atS (atS (atS (atS atZ))))) (by kernel_rfl) (by kernel_rfl) (by kernel_rfl) (fun _ _ _ h => h) (Or.inl ⟨by rfl, ?_⟩) (by assumption) ?_
        rotate_left
        · intro w hSw
          try dsimp only at hSw
          go_simp
          all_goals with_reducible rfl
        try simp only [Act.put, List.setIfInBounds_toArray, List.set_cons_zero, List.set_cons_succ]
        refine wpAnyH_take (i := 5) (v := ?_) (atL (atS (atS (atS (atS (atS atZ)))))) (by kernel_rfl) (by kernel_rfl) (by kernel_rfl) (fun _ _ _ h => h) (Or.inl ⟨by rfl, ?_⟩) (by assumption) ?_
        rotate_left
        · intro w hSw
          try dsimp only at hSw
          go_simp
          all_goals with_reducible rfl
        try simp only [Act.put, List.setIfInBounds_toArray, List.set_cons_zero, List.set_cons_succ]
        refine wpAnyH_ready (rs := [6]) (by kernel_rfl) (by simp) ?_
        refine AllReadyH.cons (atL (atS (atS (atS (atS (atS (atS atZ))))))) (fun K hK => ?_) AllReadyH.nil
        go_simp
        go_at_call 26
        (with_reducible refine (cA _ (by assumption)).mono ?_)
        rintro e w6 ⟨rfl, hS6⟩
        refine hK.out _ _ ?_ (fun hHeld => ?_)
        · exact hS6
        clear hK K
        try simp only [Act.put, List.setIfInBounds_toArray, List.set_cons_zero, List.set_cons_succ]
        refine wpAnyH_take (i := 7) (v := ?_) (atL (atS (atS (atS (atS (atS (atS (atS atZ)))))))) (by kernel_rfl) (by kernel_rfl) (by kernel_rfl) (fun _ _ _ h => h) (Or.inl ⟨by rfl, ?_⟩) (by assumption) ?_
        rotate_left
        · intro w hSw
          try dsimp only at hSw
          go_simp
          all_goals with_reducible rfl
        try simp only [Act.put, List.setIfInBounds_toArray, List.set_cons_zero, List.set_cons_succ]
        refine wpAnyH_take (i := 8) (v := ?_) (atL (atS (atS (atS (atS (atS (atS (atS (atS atZ))))))))) (by kernel_rfl) (by kernel_rfl) (by kernel_rfl) (fun _ _ _ h => h) (Or.inl ⟨by rfl, ?_⟩) (by assumption) ?_
        rotate_left
        · intro w hSw
          try dsimp only at hSw
          go_simp
          all_goals with_reducible rfl
        try simp only [Act.put, List.setIfInBounds_toArray, List.set_cons_zero, List.set_cons_succ]
        refine wpAnyH_take (i := 9) (v := ?_) (atL (atS (atS (atS (atS (atS (atS (atS (atS (atS atZ)))))))))) (by kernel_rfl) (by kernel_rfl) (by kernel_rfl) (fun _ _ _ h => h) (Or.inl ⟨by rfl, ?_⟩) (by assumption) ?_
        rotate_left
        · intro w hSw
          try dsimp only at hSw
          go_simp
          all_goals with_reducible rfl
        try simp only [Act.put, List.setIfInBounds_toArray, List.set_cons_zero, List.set_cons_succ]
        refine wpAnyH_take (i := 10) (v := ?_) (atL (atS (atS (atS (atS (atS (atS (atS (atS (atS (atS atZ))))))))))) (by kernel_rfl) (by kernel_rfl) (by kernel_rfl) (fun _ _ _ h => h) (Or.inl ⟨by rfl, ?_⟩) (by assumption) ?_
        rotate_left
        · intro w hSw
          try dsimp only at hSw
          go_simp
          all_goals with_reducible rfl
        try simp only [Act.put, List.setIfInBounds_toArray, List.set_cons_zero, List.set_cons_succ]
        refine wpAnyH_take (i := 11) (v := ?_) (atL (atS (atS (atS (atS (atS (atS (atS (atS (atS (atS (atS atZ)))))))))))) (by kernel_rfl) (by kernel_rfl) (by kernel_rfl) (fun _ _ _ h => h) (Or.inl ⟨by rfl, ?_⟩) (by assumption) ?_
        rotate_left
        · intro w hSw
          try dsimp only at hSw
          go_simp
          all_goals with_reducible rfl
        try simp only [Act.put, List.setIfInBounds_toArray, List.set_cons_zero, List.set_cons_succ]
        refine wpAnyH_ready (rs := [12]) (by kernel_rfl) (by simp) ?_
        refine AllReadyH.cons (atL (atS (atS (atS (atS (atS (atS (atS (atS (atS (atS (atS (atS atZ))))))))))))) (fun K hK => ?_) AllReadyH.nil
        go_simp
        go_at_call 26
        (with_reducible refine (cB _ (by assumption)).mono ?_)
        rintro e w7 ⟨rfl, hS7⟩
        refine hK.out _ _ ?_ (fun hHeld => ?_)
        · exact hS7
        clear hK K
        try simp only [Act.put, List.setIfInBounds_toArray, List.set_cons_zero, List.set_cons_succ]
        refine wpAnyH_take (i := 13) (v := ?_) (atL (atS (atS (atS (atS (atS (atS (atS (atS (atS (atS (atS (atS (atS atZ)))))))))))))) (by kernel_rfl) (by kernel_rfl) (by kernel_rfl) (fun _ _ _ h => h) (Or.inl ⟨by rfl, ?_⟩) (by assumption) ?_
        rotate_left
        · intro w hSw
          try dsimp only at hSw
          go_simp
          all_goals with_reducible rfl
        try simp only [Act.put, List.setIfInBounds_toArray, List.set_cons_zero, List.set_cons_succ]
        refine wpAnyH_take (i := 14) (v := ?_) (atL (atS (atS (atS (atS (atS (atS (atS (atS (atS (atS (atS (atS (atS (atS atZ))))))))))))))) (by kernel_rfl) (by kernel_rfl) (by kernel_rfl) (fun _ _ _ h => h) (Or.inl ⟨by rfl, ?_⟩) (by assumption) ?_
        rotate_left
        · intro w hSw
          try dsimp only at hSw
          go_simp
          all_goals with_reducible rfl
        try simp only [Act.put, List.setIfInBounds_toArray, List.set_cons_zero, List.set_cons_succ]
        refine wpAnyH_take (i := 15) (v := ?_) (atL (atS (atS (atS (atS (atS (atS (atS (atS (atS (atS (atS (atS (atS (atS (atS atZ)))))))))))))))) (by kernel_rfl) (by kernel_rfl) (by kernel_rfl) (fun _ _ _ h => h) (Or.inl ⟨by rfl, ?_⟩) (by assumption) ?_
        rotate_left
        · intro w hSw
          try dsimp only at hSw
          go_simp
          all_goals with_reducible rfl
        try simp only [Act.put, List.setIfInBounds_toArray, List.set_cons_zero, List.set_cons_succ]
        refine wpAnyH_done (by kernel_rfl) ?_ _
        go_wp2_with (fail)
        refine ⟨⟨k + 1, by omega, by simp, by rw [hC1.out, HTk.out]; rfl, hbr.trans ((hHeld).1.mono hbr.size)⟩, by simp [intOf]; omega⟩
    · obtain rfl : k = s.size + 1 := by omega
      have hkI : ¬ ((s.size + 1 : Nat) : Int) < (s.size : Int) + 1 := by omega
      have hEq : Hid (mE (duo 3 ea.x eb.x) s.data.toList = T (s.size + 1)) := Lib.hid (by rw [← hT.out, law_cut hka.out hkb.out, dlen])
      have hArr := hA5.below hbr hA5.lt
      have hBrr := hB5.below hbr hB5.lt
      have hbwr := hbw5.trans (hbr.mono hbw5.size)
      have hR := Blk.new wr 25 #[.int .i64 ea.x.h.k, .slice ea.sa ea.x.h.set.length ea.sc, .slice ea.a ea.x.k.len ea.c, .int .i64 eb.x.h.k, .slice eb.sa eb.x.h.set.length eb.sc, .slice eb.a eb.x.k.len eb.c]
      have hbR : Below wr.heap.size wr (wr.alloc (.cells #[.int .i64 ea.x.h.k, .slice ea.sa ea.x.h.set.length ea.sc, .slice ea.a ea.x.k.len ea.c, .int .i64 eb.x.h.k, .slice eb.sa eb.x.h.set.length eb.sc, .slice eb.a eb.x.k.len eb.c] 25)) := (Below.refl _ wr).alloc (Nat.le_refl _) _
      have hbwR := hbwr.trans (hbR.mono hbwr.size)
      have hm := match_duo 3 ea eb s wr.heap.size _ hR (hss.grown hbwR) (hts.grown hbwR) (hI.grown hbwR) (hJ.grown hbwR) (by omega) (by omega) hsn
      rw [hEq.out] at hm
      obtain ⟨R, HR⟩ : ∃ R, Hid (T (s.size + 1) = R) := ⟨_, Lib.hid rfl⟩
      rw [HR.out] at hm ⊢
      have x0 := hArr.cell 0
      have x1 := hArr.cell 1
      have x2 := hArr.cell 2
      have y0 := hBrr.cell 0
      have y1 := hBrr.cell 1
      have y2 := hBrr.cell 2
      simp only [List.getElem?_cons_zero, List.getElem?_cons_succ] at x0 x1 x2 y0 y1 y2
      have xl := hArr.lt
      have yl := hBrr.lt
      clear hR hbR hss5 hts5 hI5 hJ5
      go_wp2_with (fail)
      refine hm.mono ?_
      rintro e w6 ⟨rfl, hb6⟩
      cases R
      all_goals
        go_wp2_with (fail)
        exact bodyPost_ret (v := .bool true) (by simp [results, Try.results11, go_sem]; try rfl) rfl ⟨rfl, hbwR.trans (hb6.mono hbwR.size)⟩
end Go.Proofs.Ytkdfobnkebkpfaa

/- The row RegexCuts: for every input: any two expressions, any text: the law answers true and changes nothing that was there; no premise beyond the row's own. -/
namespace Go.Proofs.Ytkdfobnkebkpfaa
open Go.ChangeShapes Go.WideShapes Go.ChangeAt Go.RowKit

set_option maxRecDepth 100000 in
theorem regexCuts_lifted (os : Os) (started : os.Started) (H : Type) (enc : TypeId × Value → H) :
    ReturnsInHanded {} Try.checked os 11 .any (Rows.regexCutsSpec.pre6 enc Try.prog Try.f11 Rows.regexCutsRow.domain false) (Rows.regexCutsSpec.post enc Try.prog Try.f11 false true false false) := by
  refine returnsInHanded_of_change (C := Try.checked) Try.own started (by kernel_rfl) Try.func11
    (ChangeSpec.witness6 (enc := enc) (C := Try.checked) false ⟨#[], #[.agg #[.int .i64 0, .slice none 0 0, .slice none 0 0], .agg #[.int .i64 0, .slice none 0 0, .slice none 0 0], .string ⟨#[]⟩], []⟩ 8 (by kernel_rfl) (by kernel_rfl) (by kernel_rfl) (by kernel_rfl)) ?_
  intro W base args ds gs before hval0 hW _ _
  have hval : ∀ (j : Nat) t v, Try.f11.params[j]? = some t → args[j]? = some v → Value.okWide Try.prog W .any base t v := hval0
  have hW' := hW
  obtain ⟨p, q, hA0, hV, rfl, hfz, hnd⟩ := hW
  have hA : DataW.TrodAll enc Try.prog W 0 (fun _ => true) true Try.f11.params.toList args.toList ds p := hA0
  rw [Try.params11] at hA hval
  obtain ⟨v0, v1, v2, d0, d1, d2, p0, p1, p2, rfl, rfl, rfl, h0, h1, h2⟩ := trodAll_three hA
  obtain ⟨h, sa, sc, a, cap, kids, rfl, hs, hI⟩ := open_re (hval 0 25 v0 rfl rfl) h0
  obtain ⟨g, ta, tc, b, dap, gids, rfl, ht, hJ⟩ := open_re (hval 1 25 v1 rfl rfl) h1
  obtain ⟨s, rfl, _⟩ := open_str (hval 2 9 v2 rfl rfl) h2
  refine (regexCuts_any ⟨⟨h, kids⟩, sa, sc, a, cap⟩ ⟨⟨g, gids⟩, ta, tc, b, dap⟩ s W hs ht hI hJ).mono fun e W' ⟨he, hw⟩ => ?_
  subst he
  exact ⟨_, rfl, law_post hW' rfl rfl (by kernel_rfl) (by rw [Try.params11]; intro t ht; simp at ht; rcases ht with rfl | rfl; exact ⟨by kernel_rfl, of_decide_eq_true (by kernel_rfl)⟩; exact ⟨by kernel_rfl, of_decide_eq_true (by kernel_rfl)⟩) hw⟩

theorem regexCuts_holds : Rows.RegexCutsSaid :=
  OpenClaim.holds_of_wide 11 Try.f11 rfl rfl rfl rfl rfl rfl rfl ⟨rfl, rfl, rfl, rfl, rfl⟩ rfl rfl rfl rfl rfl (by kernel_rfl) Try.func11 (by kernel_rfl)
    (of_decide_eq_true (by kernel_rfl)) (by unfold Func.isWrapper; first | (rw [if_pos (by decide +kernel)]; kernel_rfl) | (rw [if_neg (by decide +kernel)]; exact ⟨rfl, rfl⟩))
    (fun os started H enc _ => regexCuts_lifted os started H enc)
end Go.Proofs.Ytkdfobnkebkpfaa
