/- Texts joined: Vg Vh Vi. -/
import Derived.Test.YtngbfjimmdkfeaaPXV4
import Derived.Test.YtngbfjimmdkfeaaPXJ
import Derived.Test.YtngbfjimmdkfeaaPXL
set_option linter.unusedVariables false
set_option linter.unusedSimpArgs false
namespace Go.Proofs.Ytngbfjimmdkfeaa
open Go.RowKit Go.Shelf

attribute [local go_sem] Oper.semAt_some

set_option maxRecDepth 100000 in
set_option maxHeartbeats 1000000 in
theorem pl_rep5 (S sc cap b off : Nat) (sa : Option Addr) (el : Ea) (L1 : List UInt8 → Prop) (s : ByteArray) (w : World) (hn : s.size ≤ 100) (hcap : 1 ≤ cap) (hcap2 : cap ≤ 9223372036854775807)
    (e0 : w.cell? ⟨b, off, none⟩ = some (.int .i64 el.x.h.k)) (e1 : w.cell? ⟨b, off + 1, none⟩ = some (.slice el.sa el.x.h.set.length el.sc)) (e2 : w.cell? ⟨b, off + 2, none⟩ = some (.slice el.a el.x.k.len el.c)) (hpl : ∀ W, Below w.heap.size w W → Calls Try.prog 48 #[.agg #[.int .i64 el.x.h.k, .slice el.sa el.x.h.set.length el.sc, .slice el.a el.x.k.len el.c], .string s] W fun e w' => (∃ g t, W.heap.size ≤ g ∧ e = .returned (tabV s.size g) ∧ Tab w' s.size g t ∧ PT s.data.toList t L1) ∧ Below W.heap.size W w') :
    Calls Try.prog 48 #[.agg #[.int .i64 5, .slice sa S sc, .slice (some ⟨b, off, none⟩) 1 cap], .string s] w fun e w' => (∃ g t, w.heap.size ≤ g ∧ e = .returned (tabV s.size g) ∧ Tab w' s.size g t ∧ PT s.data.toList t (Star L1)) ∧ Below w.heap.size w w' := by
  have hnI : (s.size : Int) ≤ 100 := by omega
  have hnI0 : (0 : Int) ≤ (s.size : Int) := by omega
  have hbl := World.block_lt_of_cell? w _ e0
  have hA0 := Blk.new w 45 #[.int .i64 5, .slice sa S sc, .slice (some ⟨b, off, none⟩) 1 cap]
  have hb0 : Below w.heap.size w (w.alloc (.cells #[.int .i64 5, .slice sa S sc, .slice (some ⟨b, off, none⟩) 1 cap] 45)) := (Below.refl _ w).alloc (Nat.le_refl _) _
  go_enter Try.func48, Try.ntmps48
  go_wp2_with (fail)
  refine (table_any s.size hn _).mono ?_
  rintro e w1 ⟨rfl, hT1, hb1⟩
  have hA1 := hA0.below hb1 hA0.lt
  have hb01 := hb0.trans (hb1.mono hb0.size)
  obtain ⟨g1, hg1⟩ : ∃ g, Hid ((w.alloc (.cells #[.int .i64 5, .slice sa S sc, .slice (some ⟨b, off, none⟩) 1 cap] 45)).heap.size = g) := ⟨_, Lib.hid rfl⟩
  have hgw1 : w.heap.size ≤ g1 := by rw [← hg1.out]; simp
  rw [hg1.out] at hT1 ⊢
  have x0 := hA1.cell 0
  have x1 := hA1.cell 1
  have x2 := hA1.cell 2
  have xl := hA1.lt
  simp only [List.getElem?_cons_zero, List.getElem?_cons_succ] at x0 x1 x2
  clear hA0 hb0 hb1
  have y0 := (hb01.cell (p := ⟨b, off, none⟩) hbl).trans e0
  have y1 := (hb01.cell (p := ⟨b, off + 1, none⟩) hbl).trans e1
  have y2 := (hb01.cell (p := ⟨b, off + 2, none⟩) hbl).trans e2
  clear e0 e1 e2
  go_wp2_with (fail)
  refine (hpl w1 hb01).mono ?_
  rintro e w2 ⟨⟨g2, t2, hg2, rfl, hT2, hP2⟩, hb2⟩
  have hA2 := hA1.below hb2 hA1.lt
  have hb02 := hb01.trans (hb2.mono hb01.size)
  have hg02 := Nat.le_trans hb01.size hg2
  clear x0 x1 x2 xl y0 y1 y2 hA1 hT1 hb01 hb2
  have x0 := hA2.cell 0
  have x1 := hA2.cell 1
  have x2 := hA2.cell 2
  have xl := hA2.lt
  simp only [List.getElem?_cons_zero, List.getElem?_cons_succ] at x0 x1 x2
  go_wp2_with (fail)
  refine (often_any s.size g2 t2 hn w2 hT2).mono ?_
  rintro e w3 ⟨⟨g3, hg3, rfl, hT3⟩, hb3⟩
  go_wp2_with (fail)
  have hP := hP2.often
  rw [dlen] at hP
  exact bodyPost_ret (v := tabV s.size g3) (by simp [results, Try.results48, go_sem]; try rfl) rfl ⟨⟨g3, _, Nat.le_trans hb02.size hg3, rfl, hT3, hP⟩, hb02.trans (hb3.mono hb02.size)⟩
set_option maxRecDepth 100000 in
set_option maxHeartbeats 1000000 in
theorem pl_rep6 (S sc cap b off : Nat) (sa : Option Addr) (el : Ea) (L1 : List UInt8 → Prop) (s : ByteArray) (w : World) (hn : s.size ≤ 100) (hcap : 1 ≤ cap) (hcap2 : cap ≤ 9223372036854775807)
    (e0 : w.cell? ⟨b, off, none⟩ = some (.int .i64 el.x.h.k)) (e1 : w.cell? ⟨b, off + 1, none⟩ = some (.slice el.sa el.x.h.set.length el.sc)) (e2 : w.cell? ⟨b, off + 2, none⟩ = some (.slice el.a el.x.k.len el.c)) (hpl : ∀ W, Below w.heap.size w W → Calls Try.prog 48 #[.agg #[.int .i64 el.x.h.k, .slice el.sa el.x.h.set.length el.sc, .slice el.a el.x.k.len el.c], .string s] W fun e w' => (∃ g t, W.heap.size ≤ g ∧ e = .returned (tabV s.size g) ∧ Tab w' s.size g t ∧ PT s.data.toList t L1) ∧ Below W.heap.size W w') :
    Calls Try.prog 48 #[.agg #[.int .i64 6, .slice sa S sc, .slice (some ⟨b, off, none⟩) 1 cap], .string s] w fun e w' => (∃ g t, w.heap.size ≤ g ∧ e = .returned (tabV s.size g) ∧ Tab w' s.size g t ∧ PT s.data.toList t (fun s => ∃ u v, s = u ++ v ∧ L1 u ∧ Star L1 v)) ∧ Below w.heap.size w w' := by
  have hnI : (s.size : Int) ≤ 100 := by omega
  have hnI0 : (0 : Int) ≤ (s.size : Int) := by omega
  have hbl := World.block_lt_of_cell? w _ e0
  have hA0 := Blk.new w 45 #[.int .i64 6, .slice sa S sc, .slice (some ⟨b, off, none⟩) 1 cap]
  have hb0 : Below w.heap.size w (w.alloc (.cells #[.int .i64 6, .slice sa S sc, .slice (some ⟨b, off, none⟩) 1 cap] 45)) := (Below.refl _ w).alloc (Nat.le_refl _) _
  go_enter Try.func48, Try.ntmps48
  go_wp2_with (fail)
  refine (table_any s.size hn _).mono ?_
  rintro e w1 ⟨rfl, hT1, hb1⟩
  have hA1 := hA0.below hb1 hA0.lt
  have hb01 := hb0.trans (hb1.mono hb0.size)
  obtain ⟨g1, hg1⟩ : ∃ g, Hid ((w.alloc (.cells #[.int .i64 6, .slice sa S sc, .slice (some ⟨b, off, none⟩) 1 cap] 45)).heap.size = g) := ⟨_, Lib.hid rfl⟩
  have hgw1 : w.heap.size ≤ g1 := by rw [← hg1.out]; simp
  rw [hg1.out] at hT1 ⊢
  have x0 := hA1.cell 0
  have x1 := hA1.cell 1
  have x2 := hA1.cell 2
  have xl := hA1.lt
  simp only [List.getElem?_cons_zero, List.getElem?_cons_succ] at x0 x1 x2
  clear hA0 hb0 hb1
  have y0 := (hb01.cell (p := ⟨b, off, none⟩) hbl).trans e0
  have y1 := (hb01.cell (p := ⟨b, off + 1, none⟩) hbl).trans e1
  have y2 := (hb01.cell (p := ⟨b, off + 2, none⟩) hbl).trans e2
  clear e0 e1 e2
  go_wp2_with (fail)
  refine (hpl w1 hb01).mono ?_
  rintro e w2 ⟨⟨g2, t2, hg2, rfl, hT2, hP2⟩, hb2⟩
  have hA2 := hA1.below hb2 hA1.lt
  have hb02 := hb01.trans (hb2.mono hb01.size)
  have hg02 := Nat.le_trans hb01.size hg2
  clear x0 x1 x2 xl y0 y1 y2 hA1 hT1 hb01 hb2
  have x0 := hA2.cell 0
  have x1 := hA2.cell 1
  have x2 := hA2.cell 2
  have xl := hA2.lt
  simp only [List.getElem?_cons_zero, List.getElem?_cons_succ] at x0 x1 x2
  go_wp2_with (fail)
  refine (often_any s.size g2 t2 hn w2 hT2).mono ?_
  rintro e w3 ⟨⟨g3, hg3, rfl, hT3⟩, hb3⟩
  have hb03 := hb02.trans (hb3.mono hb02.size)
  go_wp2_with (fail)
  refine (then_any s.size g2 g3 t2 _ hn w3 (hT2.grown hb3) hT3).mono ?_
  rintro e w4 ⟨rfl, hT4, hb4⟩
  go_wp2_with (fail)
  have hP := hP2.then hP2.often
  rw [dlen] at hP
  exact bodyPost_ret (v := tabV s.size w3.heap.size) (by simp [results, Try.results48, go_sem]; try rfl) rfl ⟨⟨w3.heap.size, _, hb03.size, rfl, hT4, hP⟩, hb03.trans (hb4.mono hb03.size)⟩
set_option maxRecDepth 100000 in
set_option maxHeartbeats 1000000 in
theorem pl_rep7 (S sc cap b off : Nat) (sa : Option Addr) (el : Ea) (L1 : List UInt8 → Prop) (s : ByteArray) (w : World) (hn : s.size ≤ 100) (hcap : 1 ≤ cap) (hcap2 : cap ≤ 9223372036854775807)
    (e0 : w.cell? ⟨b, off, none⟩ = some (.int .i64 el.x.h.k)) (e1 : w.cell? ⟨b, off + 1, none⟩ = some (.slice el.sa el.x.h.set.length el.sc)) (e2 : w.cell? ⟨b, off + 2, none⟩ = some (.slice el.a el.x.k.len el.c)) (hpl : ∀ W, Below w.heap.size w W → Calls Try.prog 48 #[.agg #[.int .i64 el.x.h.k, .slice el.sa el.x.h.set.length el.sc, .slice el.a el.x.k.len el.c], .string s] W fun e w' => (∃ g t, W.heap.size ≤ g ∧ e = .returned (tabV s.size g) ∧ Tab w' s.size g t ∧ PT s.data.toList t L1) ∧ Below W.heap.size W w') :
    Calls Try.prog 48 #[.agg #[.int .i64 7, .slice sa S sc, .slice (some ⟨b, off, none⟩) 1 cap], .string s] w fun e w' => (∃ g t, w.heap.size ≤ g ∧ e = .returned (tabV s.size g) ∧ Tab w' s.size g t ∧ PT s.data.toList t (fun s => L1 s ∨ s = [])) ∧ Below w.heap.size w w' := by
  have hnI : (s.size : Int) ≤ 100 := by omega
  have hnI0 : (0 : Int) ≤ (s.size : Int) := by omega
  have hbl := World.block_lt_of_cell? w _ e0
  have hA0 := Blk.new w 45 #[.int .i64 7, .slice sa S sc, .slice (some ⟨b, off, none⟩) 1 cap]
  have hb0 : Below w.heap.size w (w.alloc (.cells #[.int .i64 7, .slice sa S sc, .slice (some ⟨b, off, none⟩) 1 cap] 45)) := (Below.refl _ w).alloc (Nat.le_refl _) _
  go_enter Try.func48, Try.ntmps48
  go_wp2_with (fail)
  refine (table_any s.size hn _).mono ?_
  rintro e w1 ⟨rfl, hT1, hb1⟩
  have hA1 := hA0.below hb1 hA0.lt
  have hb01 := hb0.trans (hb1.mono hb0.size)
  obtain ⟨g1, hg1⟩ : ∃ g, Hid ((w.alloc (.cells #[.int .i64 7, .slice sa S sc, .slice (some ⟨b, off, none⟩) 1 cap] 45)).heap.size = g) := ⟨_, Lib.hid rfl⟩
  have hgw1 : w.heap.size ≤ g1 := by rw [← hg1.out]; simp
  rw [hg1.out] at hT1 ⊢
  have x0 := hA1.cell 0
  have x1 := hA1.cell 1
  have x2 := hA1.cell 2
  have xl := hA1.lt
  simp only [List.getElem?_cons_zero, List.getElem?_cons_succ] at x0 x1 x2
  clear hA0 hb0 hb1
  have y0 := (hb01.cell (p := ⟨b, off, none⟩) hbl).trans e0
  have y1 := (hb01.cell (p := ⟨b, off + 1, none⟩) hbl).trans e1
  have y2 := (hb01.cell (p := ⟨b, off + 2, none⟩) hbl).trans e2
  clear e0 e1 e2
  go_wp2_with (fail)
  refine (hpl w1 hb01).mono ?_
  rintro e w2 ⟨⟨g2, t2, hg2, rfl, hT2, hP2⟩, hb2⟩
  have hA2 := hA1.below hb2 hA1.lt
  have hb02 := hb01.trans (hb2.mono hb01.size)
  have hg02 := Nat.le_trans hb01.size hg2
  clear x0 x1 x2 xl y0 y1 y2 hA1 hT1 hb01 hb2
  have x0 := hA2.cell 0
  have x1 := hA2.cell 1
  have x2 := hA2.cell 2
  have xl := hA2.lt
  simp only [List.getElem?_cons_zero, List.getElem?_cons_succ] at x0 x1 x2
  go_wp2_with (fail)
  refine (none_any s.size hn w2).mono ?_
  rintro e w3 ⟨rfl, hT3, hb3⟩
  have hb03 := hb02.trans (hb3.mono hb02.size)
  go_wp2_with (fail)
  refine (or_any s.size g2 w2.heap.size t2 _ hn w3 (hT2.grown hb3) hT3).mono ?_
  rintro e w4 ⟨rfl, hT4, hb4⟩
  go_wp2_with (fail)
  exact bodyPost_ret (v := tabV s.size w3.heap.size) (by simp [results, Try.results48, go_sem]; try rfl) rfl ⟨⟨w3.heap.size, _, hb03.size, rfl, hT4, hP2.or (PT.none _)⟩, hb03.trans (hb4.mono hb03.size)⟩
end Go.Proofs.Ytngbfjimmdkfeaa

namespace Go.Proofs.Ytngbfjimmdkfeaa
open Go.RowKit Go.Shelf

attribute [local go_sem] Oper.semAt_some

set_option maxRecDepth 100000 in
set_option maxHeartbeats 1000000 in
theorem pl_cat (S sc L cap : Nat) (sa a : Option Addr) (kids : Fo) (s : ByteArray) (w : World) (hn : s.size ≤ 100) (hL : kids.len = L) (hI : Items w a cap kids)
    (hpl : ∀ (k : Nat) (el : Ea) (W : World), kids.drop k = .cons el.x.h el.x.k (kids.drop (k + 1)) → Sps W el.sa el.sc el.x.h.set → Items W el.a el.c el.x.k → Calls Try.prog 48 #[.agg #[.int .i64 el.x.h.k, .slice el.sa el.x.h.set.length el.sc, .slice el.a el.x.k.len el.c], .string s] W fun e w' => (∃ g t, W.heap.size ≤ g ∧ e = .returned (tabV s.size g) ∧ Tab w' s.size g t ∧ PT s.data.toList t (mL el.x.h el.x.k)) ∧ Below W.heap.size W w') :
    Calls Try.prog 48 #[.agg #[.int .i64 3, .slice sa S sc, .slice a L cap], .string s] w fun e w' => (∃ g t, w.heap.size ≤ g ∧ e = .returned (tabV s.size g) ∧ Tab w' s.size g t ∧ PT s.data.toList t (foL kids).cat) ∧ Below w.heap.size w w' := by
  have hnI : (s.size : Int) ≤ 100 := by omega
  have hnI0 : (0 : Int) ≤ (s.size : Int) := by omega
  have hlm : L ≤ cap ∧ cap ≤ 9223372036854775807 := ⟨hL ▸ hI.le, hI.max⟩
  have HL := Lib.hid hL
  clear hL
  have hA0 := Blk.new w 45 #[.int .i64 3, .slice sa S sc, .slice a L cap]
  have hb0 : Below w.heap.size w (w.alloc (.cells #[.int .i64 3, .slice sa S sc, .slice a L cap] 45)) := (Below.refl _ w).alloc (Nat.le_refl _) _
  go_enter Try.func48, Try.ntmps48
  go_wp2_with (fail)
  refine (table_any s.size hn _).mono ?_
  rintro e w1 ⟨rfl, hT1, hb1⟩
  have hA1 := hA0.below hb1 hA0.lt
  have hb01 := hb0.trans (hb1.mono hb0.size)
  obtain ⟨g1, hg1⟩ : ∃ g, Hid ((w.alloc (.cells #[.int .i64 3, .slice sa S sc, .slice a L cap] 45)).heap.size = g) := ⟨_, Lib.hid rfl⟩
  have hgw1 : w.heap.size ≤ g1 := by rw [← hg1.out]; simp
  rw [hg1.out] at hT1 ⊢
  have x0 := hA1.cell 0
  have x1 := hA1.cell 1
  have x2 := hA1.cell 2
  have xl := hA1.lt
  simp only [List.getElem?_cons_zero, List.getElem?_cons_succ] at x0 x1 x2
  clear hA0 hb0 hb1
  have Hpl := Lib.hid hpl
  clear hpl
  go_wp2_with (fail)
  refine (none_any s.size hn w1).mono ?_
  rintro e w2 ⟨rfl, hT2, hb2⟩
  have hA2 := hA1.below hb2 hA1.lt
  have hb02 := hb01.trans (hb2.mono hb01.size)
  have hpl := Hpl.out
  have hI0 : ∃ (k g : Nat) (t : Nat → Nat → Bool) (C : List UInt8 → Prop), k ≤ L ∧ Value.int .i64 0 = .int .i64 (k : Int) ∧ tabV s.size w1.heap.size = tabV s.size g ∧ w.heap.size ≤ g ∧ Tab w2 s.size g t ∧ PT s.data.toList t C ∧ (∀ s, (∃ u v, s = u ++ v ∧ C u ∧ (foL (kids.drop k)).cat v) ↔ (foL kids).cat s) ∧ Below w.heap.size w w2 :=
    ⟨0, w1.heap.size, _, _, Nat.zero_le _, rfl, rfl, hb01.size, hT2, PT.none _, fun q => ⟨by rintro ⟨u, v, rfl, rfl, h⟩; exact h, fun h => ⟨[], q, rfl, rfl, h⟩⟩, hb02⟩
  clear x0 x1 x2 xl hT1
  have x0 := hA2.cell 0
  have x1 := hA2.cell 1
  have x2 := hA2.cell 2
  have xl := hA2.lt
  simp only [List.getElem?_cons_zero, List.getElem?_cons_succ] at x0 x1 x2
  clear hT2 hb2 hA1 hA2 hb01 hb02 hpl
  go_wp2_with (fail)
  have hpl := Hpl.out
  go_loopw [5, 51] (fun ov iv wr => ∃ (k g : Nat) (t : Nat → Nat → Bool) (C : List UInt8 → Prop), k ≤ L ∧ iv = .int .i64 (k : Int) ∧ ov = tabV s.size g ∧ w.heap.size ≤ g ∧ Tab wr s.size g t ∧ PT s.data.toList t C ∧ (∀ s, (∃ u v, s = u ++ v ∧ C u ∧ (foL (kids.drop k)).cat v) ↔ (foL kids).cat s) ∧ Below w.heap.size w wr) (fun _ iv _ => L - (intOf iv).toNat)
  case atStart => exact hI0
  case round =>
    obtain ⟨k, g, t, C, hk, rfl, rfl, hgg, hT, hP, hC, hbr⟩ := hrel
    have HC := Lib.hid hC
    clear hC hI0
    by_cases hlt : k < L
    · have hkI : (k : Int) < (L : Int) := by omega
      obtain ⟨b, off, hd, ks, ya, yc, xa, xcap, rfl, hat⟩ := (hI.grown hbr).at (k := k) (by rw [HL.out]; exact hlt)
      obtain ⟨x0, x1, x2, hsp, hIk, hcut⟩ := hat
      have hnx := (Below.refl wr.heap.size wr).alloc (Nat.le_refl _) (.cells #[.int .i64 hd.k, .slice ya hd.set.length yc, .slice xa ks.len xcap] 45)
      have hbn : Below w.heap.size w (wr.alloc (.cells #[.int .i64 hd.k, .slice ya hd.set.length yc, .slice xa ks.len xcap] 45)) := hbr.trans (hnx.mono hbr.size)
      have hcl := hpl k ⟨⟨hd, ks⟩, ya, yc, xa, xcap⟩ _ hcut (hsp.grown hnx) (hIk.grown hnx)
      have HCut := Lib.hid hcut
      have hTn := hT.grown hnx
      have hmx := hIk.le
      have hmx2 := hIk.max
      clear hnx hIk hsp hcut hpl hT
      go_wp2_with (fail)
      refine hcl.mono ?_
      rintro e w4 ⟨⟨g4, t4, hg4, rfl, hT4, hP4⟩, hb4⟩
      have hb04 := hbn.trans (hb4.mono hbn.size)
      have hT5 := hTn.grown hb4
      clear hcl hb4 hTn x0 x1 x2
      go_wp2_with (fail)
      refine (then_any s.size g g4 t t4 hn w4 hT5 hT4).mono ?_
      rintro e w6 ⟨rfl, hT6, hb6⟩
      go_wp2_with (fail)
      have hP6 := hP.then hP4
      rw [dlen] at hP6
      refine ⟨⟨k + 1, w4.heap.size, _, _, by omega, by simp, rfl, hb04.size, hT6, hP6, fun q => ?_, hb04.trans (hb6.mono hb04.size)⟩, by simp [intOf]; omega⟩
      rw [← HC.out q, HCut.out]
      constructor
      · rintro ⟨u, v, rfl, ⟨u1, u2, rfl, h1, h2⟩, h3⟩
        exact ⟨u1, u2 ++ v, by simp, h1, u2, v, rfl, h2, h3⟩
      · rintro ⟨u, v, rfl, h1, u2, v2, rfl, h2, h3⟩
        exact ⟨u ++ u2, v2, by simp, ⟨u, u2, rfl, h1, h2⟩, h3⟩
    · obtain rfl : k = L := by omega
      have hkI : ¬ (k : Int) < (k : Int) := by omega
      have hd0 : kids.drop k = .nil := Fo.drop_all (by rw [HL.out]; exact Nat.le_refl _)
      have hF : Hid (PT s.data.toList t (foL kids).cat) := Lib.hid (hP.congr (fun q => by
        have := HC.out q
        rw [hd0] at this
        rw [← this]
        constructor
        · rintro ⟨u, v, rfl, h1, h2⟩
          have h2 : v = [] := h2
          subst h2
          rw [List.append_nil]; exact h1
        · intro h; exact ⟨q, [], by simp, h, rfl⟩))
      clear hd0 hP HC
      go_wp2_with (fail)
      exact bodyPost_ret (v := tabV s.size g) (by simp [results, Try.results48, go_sem]; try rfl) rfl ⟨⟨g, hgg, rfl, t, hT, hF.out⟩, hbr⟩
set_option maxRecDepth 100000 in
set_option maxHeartbeats 1000000 in
theorem pl_alt (S sc L cap : Nat) (sa a : Option Addr) (kids : Fo) (s : ByteArray) (w : World) (hn : s.size ≤ 100) (hL : kids.len = L) (hI : Items w a cap kids)
    (hpl : ∀ (k : Nat) (el : Ea) (W : World), kids.drop k = .cons el.x.h el.x.k (kids.drop (k + 1)) → Sps W el.sa el.sc el.x.h.set → Items W el.a el.c el.x.k → Calls Try.prog 48 #[.agg #[.int .i64 el.x.h.k, .slice el.sa el.x.h.set.length el.sc, .slice el.a el.x.k.len el.c], .string s] W fun e w' => (∃ g t, W.heap.size ≤ g ∧ e = .returned (tabV s.size g) ∧ Tab w' s.size g t ∧ PT s.data.toList t (mL el.x.h el.x.k)) ∧ Below W.heap.size W w') :
    Calls Try.prog 48 #[.agg #[.int .i64 4, .slice sa S sc, .slice a L cap], .string s] w fun e w' => (∃ g t, w.heap.size ≤ g ∧ e = .returned (tabV s.size g) ∧ Tab w' s.size g t ∧ PT s.data.toList t (foL kids).alt) ∧ Below w.heap.size w w' := by
  have hnI : (s.size : Int) ≤ 100 := by omega
  have hnI0 : (0 : Int) ≤ (s.size : Int) := by omega
  have hlm : L ≤ cap ∧ cap ≤ 9223372036854775807 := ⟨hL ▸ hI.le, hI.max⟩
  have HL := Lib.hid hL
  clear hL
  have hA0 := Blk.new w 45 #[.int .i64 4, .slice sa S sc, .slice a L cap]
  have hb0 : Below w.heap.size w (w.alloc (.cells #[.int .i64 4, .slice sa S sc, .slice a L cap] 45)) := (Below.refl _ w).alloc (Nat.le_refl _) _
  go_enter Try.func48, Try.ntmps48
  go_wp2_with (fail)
  refine (table_any s.size hn _).mono ?_
  rintro e w1 ⟨rfl, hT1, hb1⟩
  have hA1 := hA0.below hb1 hA0.lt
  have hb01 := hb0.trans (hb1.mono hb0.size)
  obtain ⟨g1, hg1⟩ : ∃ g, Hid ((w.alloc (.cells #[.int .i64 4, .slice sa S sc, .slice a L cap] 45)).heap.size = g) := ⟨_, Lib.hid rfl⟩
  have hgw1 : w.heap.size ≤ g1 := by rw [← hg1.out]; simp
  rw [hg1.out] at hT1 ⊢
  have x0 := hA1.cell 0
  have x1 := hA1.cell 1
  have x2 := hA1.cell 2
  have xl := hA1.lt
  simp only [List.getElem?_cons_zero, List.getElem?_cons_succ] at x0 x1 x2
  clear hA0 hb0 hb1
  have hI0 : ∃ (k g : Nat) (t : Nat → Nat → Bool) (C : List UInt8 → Prop), k ≤ L ∧ Value.int .i64 0 = .int .i64 (k : Int) ∧ tabV s.size g1 = tabV s.size g ∧ w.heap.size ≤ g ∧ Tab w1 s.size g t ∧ PT s.data.toList t C ∧ (∀ s, (C s ∨ (foL (kids.drop k)).alt s) ↔ (foL kids).alt s) ∧ Below w.heap.size w w1 :=
    ⟨0, g1, _, _, Nat.zero_le _, rfl, rfl, hgw1, hT1, PT.false _, fun q => ⟨fun h => h.elim (fun h => h.elim) id, .inr⟩, hb01⟩
  have Hpl := Lib.hid hpl
  clear hpl hT1 hb01
  go_wp2_with (fail)
  have hpl := Hpl.out
  go_loopw [5, 66] (fun ov iv wr => ∃ (k g : Nat) (t : Nat → Nat → Bool) (C : List UInt8 → Prop), k ≤ L ∧ iv = .int .i64 (k : Int) ∧ ov = tabV s.size g ∧ w.heap.size ≤ g ∧ Tab wr s.size g t ∧ PT s.data.toList t C ∧ (∀ s, (C s ∨ (foL (kids.drop k)).alt s) ↔ (foL kids).alt s) ∧ Below w.heap.size w wr) (fun _ iv _ => L - (intOf iv).toNat)
  case atStart => exact hI0
  case round =>
    obtain ⟨k, g, t, C, hk, rfl, rfl, hgg, hT, hP, hC, hbr⟩ := hrel
    have HC := Lib.hid hC
    clear hC hI0
    by_cases hlt : k < L
    · have hkI : (k : Int) < (L : Int) := by omega
      obtain ⟨b, off, hd, ks, ya, yc, xa, xcap, rfl, hat⟩ := (hI.grown hbr).at (k := k) (by rw [HL.out]; exact hlt)
      obtain ⟨x0, x1, x2, hsp, hIk, hcut⟩ := hat
      have hnx := (Below.refl wr.heap.size wr).alloc (Nat.le_refl _) (.cells #[.int .i64 hd.k, .slice ya hd.set.length yc, .slice xa ks.len xcap] 45)
      have hbn : Below w.heap.size w (wr.alloc (.cells #[.int .i64 hd.k, .slice ya hd.set.length yc, .slice xa ks.len xcap] 45)) := hbr.trans (hnx.mono hbr.size)
      have hcl := hpl k ⟨⟨hd, ks⟩, ya, yc, xa, xcap⟩ _ hcut (hsp.grown hnx) (hIk.grown hnx)
      have HCut := Lib.hid hcut
      have hTn := hT.grown hnx
      have hmx := hIk.le
      have hmx2 := hIk.max
      clear hnx hIk hsp hcut hpl hT
      go_wp2_with (fail)
      refine hcl.mono ?_
      rintro e w4 ⟨⟨g4, t4, hg4, rfl, hT4, hP4⟩, hb4⟩
      have hb04 := hbn.trans (hb4.mono hbn.size)
      have hT5 := hTn.grown hb4
      clear hcl hb4 hTn x0 x1 x2
      go_wp2_with (fail)
      refine (or_any s.size g g4 t t4 hn w4 hT5 hT4).mono ?_
      rintro e w6 ⟨rfl, hT6, hb6⟩
      go_wp2_with (fail)
      have hP6 := hP.or hP4
      refine ⟨⟨k + 1, w4.heap.size, _, _, by omega, by simp, rfl, hb04.size, hT6, hP6, fun q => ?_, hb04.trans (hb6.mono hb04.size)⟩, by simp [intOf]; omega⟩
      rw [← HC.out q, HCut.out]
      exact ⟨fun h => h.elim (fun h => h.elim .inl (fun h => .inr (.inl h))) (fun h => .inr (.inr h)), fun h => h.elim (fun h => .inl (.inl h)) (fun h => h.elim (fun h => .inl (.inr h)) .inr)⟩
    · obtain rfl : k = L := by omega
      have hkI : ¬ (k : Int) < (k : Int) := by omega
      have hd0 : kids.drop k = .nil := Fo.drop_all (by rw [HL.out]; exact Nat.le_refl _)
      have hF : Hid (PT s.data.toList t (foL kids).alt) := Lib.hid (hP.congr (fun q => by
        have := HC.out q
        rw [hd0] at this
        rw [← this]
        exact ⟨fun h => h.elim id (fun h => h.elim), .inl⟩))
      clear hd0 hP HC
      go_wp2_with (fail)
      exact bodyPost_ret (v := tabV s.size g) (by simp [results, Try.results48, go_sem]; try rfl) rfl ⟨⟨g, hgg, rfl, t, hT, hF.out⟩, hbr⟩
end Go.Proofs.Ytngbfjimmdkfeaa

namespace Go.Proofs.Ytngbfjimmdkfeaa
open Go.RowKit Go.Shelf

attribute [local go_sem] Oper.semAt_some

/-- What a call of places comes to. -/
def PlA (s : ByteArray) (L : List UInt8 → Prop) (w : World) (e : Ending) (w' : World) : Prop :=
  (∃ g t, w.heap.size ≤ g ∧ e = .returned (tabV s.size g) ∧ Tab w' s.size g t ∧ PT s.data.toList t L) ∧ Below w.heap.size w w'
theorem PlA.of {s : ByteArray} {L M : List UInt8 → Prop} {w : World} {e : Ending} {w' : World} (h : (∃ g t, w.heap.size ≤ g ∧ e = .returned (tabV s.size g) ∧ Tab w' s.size g t ∧ PT s.data.toList t L) ∧ Below w.heap.size w w') (he : ∀ q, M q ↔ L q) : PlA s M w e w' := by
  obtain ⟨⟨g, t, h1, h2, h3, h4⟩, h5⟩ := h
  exact ⟨⟨g, t, h1, h2, h3, h4.congr he⟩, h5⟩
theorem places_any (s : ByteArray) (hn : s.size ≤ 100) : ∀ (N : Nat) (ea : Ea) (w : World), ea.x.k.size < N → plainB ea.x.h ea.x.k.len = true → okF ea.x.k → Sps w ea.sa ea.sc ea.x.h.set → Items w ea.a ea.c ea.x.k →
    Calls Try.prog 48 #[.agg #[.int .i64 ea.x.h.k, .slice ea.sa ea.x.h.set.length ea.sc, .slice ea.a ea.x.k.len ea.c], .string s] w (PlA s (mL ea.x.h ea.x.k) w) := by
  intro N
  induction N with
  | zero => intro ea w h; omega
  | succ N ih =>
    intro ea w hN hp hok hs hI
    obtain ⟨⟨⟨hk, hset⟩, kids⟩, sa, sc, a, cap⟩ := ea
    simp only at hN hp hok hs hI ⊢
    rcases plain_cases hp with ⟨h1, rfl⟩ | ⟨h2, rfl, _, _⟩ | ⟨h34, hl⟩ | ⟨h567, c, ck, rfl⟩
    · cases h1
      exact (pl_empty 0 sc sa 0 cap a s w hn).mono fun e w' h => PlA.of h (fun q => by simp [mL, exL])
    · simp only at h2
      subst h2
      exact (pl_set hset sc sa 0 cap a s w hn hs).mono fun e w' h => PlA.of h (fun q => by simp [mL, exL])
    · have hpl : ∀ (k : Nat) (el : Ea) (W : World), kids.drop k = .cons el.x.h el.x.k (kids.drop (k + 1)) → Sps W el.sa el.sc el.x.h.set → Items W el.a el.c el.x.k → Calls Try.prog 48 #[.agg #[.int .i64 el.x.h.k, .slice el.sa el.x.h.set.length el.sc, .slice el.a el.x.k.len el.c], .string s] W fun e w' => (∃ g t, W.heap.size ≤ g ∧ e = .returned (tabV s.size g) ∧ Tab w' s.size g t ∧ PT s.data.toList t (mL el.x.h el.x.k)) ∧ Below W.heap.size W w' := by
        intro k el W hd h1 h2
        have ho := okF_drop k kids hok
        rw [hd] at ho
        have hsz := Fo.drop_size k kids
        rw [hd] at hsz
        simp only [Fo.size] at hsz
        exact ih el W (by omega) ho.1 ho.2.1 h1 h2
      rcases h34 with h3 | h4
      · cases h3
        exact (pl_cat 0 sc kids.len cap sa a kids s w hn rfl hI hpl).mono fun e w' h => PlA.of h (fun q => by simp [mL, exL])
      · cases h4
        exact (pl_alt 0 sc kids.len cap sa a kids s w hn rfl hI hpl).mono fun e w' h => PlA.of h (fun q => by simp [mL, exL])
    · obtain ⟨b, off, rfl, e0, ⟨ya, yc, e1, hsp⟩, ⟨xa, xcap, e2, i1, i2, i3, i4⟩, _⟩ := hI.at_ (by simp [Fo.len])
      have hcap : 1 ≤ cap := by have := hI.le; simp [Fo.len] at this; exact this
      have hpl : ∀ W, Below w.heap.size w W → Calls Try.prog 48 #[.agg #[.int .i64 c.k, .slice ya c.set.length yc, .slice xa ck.len xcap], .string s] W fun e w' => (∃ g t, W.heap.size ≤ g ∧ e = .returned (tabV s.size g) ∧ Tab w' s.size g t ∧ PT s.data.toList t (mL c ck)) ∧ Below W.heap.size W w' := fun W hb =>
        ih ⟨⟨c, ck⟩, ya, yc, xa, xcap⟩ W (by simp only [Fo.size] at hN; show ck.size < N; omega) hok.1 hok.2.1 (hsp.grown hb) (Items.grown ⟨i1, i2, i3, i4⟩ hb)
      rcases h567 with h5 | h6 | h7
      · cases h5
        exact (pl_rep5 0 sc cap b off sa ⟨⟨c, ck⟩, ya, yc, xa, xcap⟩ (mL c ck) s w hn hcap hI.max e0 e1 e2 hpl).mono fun e w' h => PlA.of h (fun q => Iff.rfl)
      · cases h6
        exact (pl_rep6 0 sc cap b off sa ⟨⟨c, ck⟩, ya, yc, xa, xcap⟩ (mL c ck) s w hn hcap hI.max e0 e1 e2 hpl).mono fun e w' h => PlA.of h (fun q => Iff.rfl)
      · cases h7
        exact (pl_rep7 0 sc cap b off sa ⟨⟨c, ck⟩, ya, yc, xa, xcap⟩ (mL c ck) s w hn hcap hI.max e0 e1 e2 hpl).mono fun e w' h => PlA.of h (fun q => or_comm)

set_option maxRecDepth 100000 in
set_option maxHeartbeats 1000000 in
theorem refMatch_any (ea : Ea) (s : ByteArray) (w : World) (hn : s.size ≤ 100) (hc : checkE (Fo.pre 1 (.cons ea.x.h ea.x.k .nil)) ≠ 1) (hs : Sps w ea.sa ea.sc ea.x.h.set) (hI : Items w ea.a ea.c ea.x.k) :
    Calls Try.prog 26 #[.agg #[.int .i64 ea.x.h.k, .slice ea.sa ea.x.h.set.length ea.sc, .slice ea.a ea.x.k.len ea.c], .string s] w fun e w' => e = .returned (.bool (mE ea.x s.data.toList)) ∧ Below w.heap.size w w' := by
  have hok := okF_of_pre _ 1 (checkE_plain hc)
  have hm := mE_is (x := ea.x) hc s.data.toList
  have hnI : (s.size : Int) ≤ 100 := by omega
  have hnI0 : (0 : Int) ≤ (s.size : Int) := by omega
  have hnI1 : (s.size : Int) < (s.size : Int) + 1 := by omega
  have hnI2 : (0 : Int) < (s.size : Int) + 1 := by omega
  have hA0 := Blk.new w 45 #[.int .i64 ea.x.h.k, .slice ea.sa ea.x.h.set.length ea.sc, .slice ea.a ea.x.k.len ea.c]
  have hb0 : Below w.heap.size w (w.alloc (.cells #[.int .i64 ea.x.h.k, .slice ea.sa ea.x.h.set.length ea.sc, .slice ea.a ea.x.k.len ea.c] 45)) := (Below.refl _ w).alloc (Nat.le_refl _) _
  have hpl := places_any s hn (ea.x.k.size + 1) ea _ (Nat.lt_succ_self _) hok.1 hok.2.1 (hs.grown hb0) (hI.grown hb0)
  obtain ⟨R, hR⟩ : ∃ b, Hid (mE ea.x s.data.toList = b) := ⟨_, Lib.hid rfl⟩
  rw [hR.out] at hm ⊢
  have Hm := Lib.hid hm
  clear hm
  go_enter Try.func26, Try.ntmps26
  go_wp2_with (fail)
  refine hpl.mono ?_
  rintro e w2 ⟨⟨g, t, hg, rfl, hT, hP⟩, hb2⟩
  have c0 := hT.outAt (Nat.zero_le s.size)
  have c1 := hT.rowAt (Nat.zero_le s.size) (Nat.le_refl s.size)
  have ht : t 0 s.size = R := by
    have h := hP 0 s.size (Nat.zero_le _) (by rw [dlen]; exact Nat.le_refl _)
    rw [Bool.eq_iff_iff, h, Hm.out]
    have e : sub s.data.toList 0 s.size = s.data.toList := by unfold sub; rw [List.drop_zero, List.take_of_length_le (by rw [dlen]; exact Nat.le_refl _)]
    rw [e]
    exact ⟨fun h => h.2, fun h => ⟨Nat.zero_le _, h⟩⟩
  rw [ht] at c1
  go_wp2_with (fail)
  exact bodyPost_ret (v := .bool R) (by simp [results, Try.results26, go_sem]; try rfl) rfl ⟨rfl, hb0.trans (hb2.mono hb0.size)⟩
end Go.Proofs.Ytngbfjimmdkfeaa

