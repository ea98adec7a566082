/- Texts joined: If Bu Ig Ik. -/
import Derived.Test.YtiopbjgpaidemaaJAe
import Derived.Test.YtiopbjgpaidemaaJAc
import Derived.Test.YtiopbjgpaidemaaJAd
set_option linter.unusedVariables false
set_option linter.unusedSimpArgs false
namespace Go.Proofs.Ytiopbjgpaidemaa
open Go.RowKit Go.Maps

attribute [local go_sem] Oper.semAt_some

/-- A way, without where it lies. -/
def WyD.p {α : Type} (y : WyD α) : Wy α := ⟨y.n, y.l⟩
/-- A set, and what is in it. -/
def MadeQS (W : World) (T : List (Wy ByteArray)) (e : Ending) (W' : World) : Prop :=
  ∃ sb n M, e = .returned (.map (some sb)) ∧ SetT W' sb n M ∧ n ≤ 10000000000000 ∧ (∀ x, M x = true ↔ Mk T x) ∧ W.heap.size ≤ sb ∧ Below W.heap.size W W'
theorem TakeAtS.new (w0 W : World) : TakeAtS w0 (((W.alloc (.map #[] 0)).alloc (.map #[] 0)).alloc (.cells #[.map (some W.heap.size), .map (some (W.heap.size + 1))] 161)) W.heap.size (W.heap.size + 2) W.heap.size (W.heap.size + 1) 0 (fun _ => false) [] (fun _ => .slice none 0 0) where
  mbx := by
    have := Blk.new ((W.alloc (.map #[] 0)).alloc (.map #[] 0)) 161 #[.map (some W.heap.size), .map (some (W.heap.size + 1))]
    rw [show ((W.alloc (.map #[] 0)).alloc (.map #[] 0)).heap.size = W.heap.size + 2 by simp] at this
    exact this
  set := ((SetT.new W).kept (World.grownBy_alloc _ _ none) (by simp)).kept (World.grownBy_alloc _ _ none) (by simp)
  wait := by
    have := (SlcTS.new (W.alloc (.map #[] 0))).kept (World.grownBy_alloc _ (.cells #[.map (some W.heap.size), .map (some (W.heap.size + 1))] 161) none) (by simp)
    rw [show (W.alloc (.map #[] 0)).heap.size = W.heap.size + 1 by simp] at this
    exact this
  rows := fun k _ => ⟨none, 0, rfl, OwnYS.nil _ _⟩
  apart := fun j k _ _ _ g e => by cases e
  lo := ⟨by omega, by omega, by omega, by omega⟩
  nds := fun p h => by cases h

set_option maxRecDepth 100000 in
set_option maxHeartbeats 8000000 in
theorem made_anyS (w0 W : World) (b0 : Nat) (ys : List (WyD ByteArray)) (a : Option Addr) (c : Nat) (hrow : OwnYS W b0 a c ys) (hnd : ∀ y ∈ ys, NdOkS w0 y) (h0 : Below w0.heap.size w0 W) (hfew : ys.length ≤ 10000) :
    Calls Try.prog 98 #[.slice a ys.length c] W (MadeQS W (ys.map WyD.p)) := by
  have hlm := hrow.le
  have hNew := TakeAtS.new w0 W
  have hb2 : Below W.heap.size W (((W.alloc (.map #[] 0)).alloc (.map #[] 0)).alloc (.cells #[.map (some W.heap.size), .map (some (W.heap.size + 1))] 161)) := (((Below.refl _ W).alloc (Nat.le_refl _) _).alloc (by simp) _).alloc (by simp; omega) _
  have hmm := @run_makeMap Try.prog
  obtain ⟨R, hR⟩ : ∃ R : Nat → List (Wy ByteArray), Hid ((fun k => (ys.take k).map WyD.p) = R) := ⟨_, Lib.hid rfl⟩
  have hR0 : Hid (R 0 = []) := Lib.hid (by rw [← hR.out]; rfl)
  have hRe : Hid (ys.map WyD.p = R ys.length) := Lib.hid (by rw [← hR.out]; show _ = (ys.take ys.length).map WyD.p; rw [List.take_length])
  have hRs : Hid (∀ k (hk : k < ys.length), R (k + 1) = R k ++ [⟨ys[k].n, ys[k].l⟩]) := Lib.hid (fun k hk => by
    rw [← hR.out]
    show (ys.take (k + 1)).map WyD.p = (ys.take k).map WyD.p ++ _
    rw [List.take_add_one, List.getElem?_eq_getElem hk, List.map_append]
    rfl)
  have hRl : Hid (∀ k, (R k).length ≤ 10000) := Lib.hid (fun k => by
    rw [← hR.out]
    show ((ys.take k).map WyD.p).length ≤ _
    simp
    omega)
  rw [hRe.out]
  obtain ⟨L, HL⟩ : ∃ L, Hid (ys.length = L) := ⟨_, Lib.hid rfl⟩
  rw [HL.out] at hlm hfew hRe ⊢
  have HI0 : Hid (MkInv (R 0) (fun _ => false) [] []) := Lib.hid (by rw [hR0.out]; exact MkInv.nil)
  have HN0 := Lib.hid hNew
  obtain ⟨base, hbase⟩ : ∃ q, Hid (W.heap.size = q) := ⟨_, Lib.hid rfl⟩
  have hbW : base ≤ W.heap.size := by rw [hbase.out]; exact Nat.le_refl _
  have Hrow := Lib.hid hrow
  have hB0 : w0.heap.size ≤ base := by rw [← hbase.out]; exact h0.size
  clear hNew hrow
  go_enter Try.func98, Try.ntmps98
  go_wp2_with (fail)
  rw [hbase.out] at HN0 hb2 ⊢
  generalize hV : World.alloc (World.alloc (World.alloc W _) _) _ = V at HN0 hb2 ⊢
  clear hV
  go_loopw [11] (fun iv wr => ∃ (k n' : Nat) (M' : ByteArray → Bool) (P' : List (ByteArray × WyD ByteArray)) (f' : ByteArray → Value), k ≤ L ∧ iv = .int .i64 (k : Int) ∧ n' ≤ k * 200000000 ∧ Hid (TakeAtS w0 wr base (base + 2) base (base + 1) n' M' P' f') ∧ Hid (MkInv (R k) M' P' []) ∧ Below base W wr) (fun iv _ => L - (intOf iv).toNat)
  case atStart => exact ⟨0, 0, _, _, _, Nat.zero_le _, rfl, Nat.le_refl _, HN0, HI0, hb2⟩
  case round =>
    obtain ⟨k, n', M', P', f', hk, rfl, hn', HT, HI, hbr⟩ := hrel
    have hnb : n' ≤ 2000000000000 := by omega
    by_cases hlt : k < L
    · have hkI : (k : Int) < (L : Int) := by omega
      have hkI0 : (0 : Int) ≤ (k : Int) := by omega
      have hkl : k < ys.length := by rw [HL.out]; exact hlt
      have hbr2 := hbr
      rw [← hbase.out] at hbr2
      obtain ⟨g, rfl, _, hg2, c0, c1⟩ := (OwnYS.below Hrow.out hbr2).at k hkl
      have hm : ys[k] ∈ ys := List.getElem_mem hkl
      have hst := Lib.hid (hRs.out k hkl)
      obtain ⟨y, hy⟩ : ∃ v, Hid (ys[k] = v) := ⟨_, Lib.hid rfl⟩
      rw [hy.out] at c0 c1 hm hst
      have hN := hnd y hm
      have hgA : Below wr.heap.size wr (wr.alloc (.cells #[.string y.n, .slice y.a y.l.length y.c] 132)) := (Below.refl _ wr).alloc (Nat.le_refl _) _
      have hA := Blk.new wr 132 #[.string y.n, .slice y.a y.l.length y.c]
      have hbA : Below base W (wr.alloc (.cells #[.string y.n, .slice y.a y.l.length y.c] 132)) := hbr.trans (hgA.mono (Nat.le_trans hbW hbr.size))
      have Hc := Lib.hid (take_anyS w0 _ base (base + 2) base (base + 1) n' M' P' f' (R k) y (HT.out.below hgA) HI.out hN (h0.trans (hbA.mono hB0)) hB0 (Nat.le_trans hbW hbA.size) (hRl.out k) (by omega))
      have HbA := Lib.hid hbA
      obtain ⟨M, HM⟩ : ∃ M, Hid (y.l.length = M) := ⟨_, Lib.hid rfl⟩
      rw [HM.out] at c1 hA Hc HbA
      have y0 := hA.cell 0
      have y1 := hA.cell 1
      have yl := hA.lt
      simp only [List.getElem?_cons_zero, List.getElem?_cons_succ] at y0 y1
      obtain ⟨T1, hT1⟩ : ∃ q, Hid (R k ++ [⟨y.n, y.l⟩] = q) := ⟨_, Lib.hid rfl⟩
      rw [hT1.out] at Hc hst
      clear hA hgA hbA hbr2 hm hN
      go_wp2_with (fail)
      refine Hc.out.mono ?_
      clear Hc
      rintro e w3 ⟨rfl, n3, M3, P3, f3, hn3, hT3, hI3, hb3⟩
      have HT3 := Lib.hid hT3
      have HI3 : Hid (MkInv (R (k + 1)) M3 P3 []) := Lib.hid (by rw [hst.out]; exact hI3)
      have Hb3 := Lib.hid (HbA.out.trans hb3)
      clear hT3 hI3 hb3
      go_wp2_with (fail)
      exact ⟨⟨k + 1, n3, M3, P3, f3, by omega, by go_num, by omega, HT3, HI3, Hb3.out⟩, by simp [intOf]; omega⟩
    · obtain rfl : k = L := by omega
      have hkI : ¬ (k : Int) < (k : Int) := by omega
      have m0 := HT.out.mbx.cell 0
      have ml := HT.out.mbx.lt
      simp only [List.getElem?_cons_zero] at m0
      go_wp2_with (fail)
      exact bodyPost_ret (v := .map (some base)) (by simp [results, Try.results98, go_sem]; try first | rfl | assumption | omega) rfl ⟨base, n', M', rfl, HT.out.set, by omega, fun x => HI.out.done x, by rw [hbase.out]; exact Nat.le_refl _, by rw [hbase.out]; exact hbr⟩
end Go.Proofs.Ytiopbjgpaidemaa

namespace Go.Proofs.Ytiopbjgpaidemaa
open Go.RowKit Go.Shelf

attribute [local go_sem] Oper.semAt_some

def szA (ds : List AltD) : Nat := (ds.map (fun d => d.l.length)).sum
def szR (rs : List RlD) : Nat := (rs.map (fun r => r.ds.length + szA r.ds)).sum
theorem szA_take (ds : List AltD) (i : Nat) (h : i < ds.length) : szA (ds.take (i + 1)) = szA (ds.take i) + ds[i].l.length := by
  unfold szA
  rw [List.take_add_one, List.getElem?_eq_getElem h, List.map_append, List.sum_append_nat]
  simp
theorem szR_take (rs : List RlD) (i : Nat) (h : i < rs.length) : szR (rs.take (i + 1)) = szR (rs.take i) + (rs[i].ds.length + szA rs[i].ds) := by
  unfold szR
  rw [List.take_add_one, List.getElem?_eq_getElem h, List.map_append, List.sum_append_nat]
  simp
theorem szA_le (ds : List AltD) (i : Nat) : szA (ds.take i) ≤ szA ds := by
  have : szA ds = szA (ds.take i) + szA (ds.drop i) := by
    unfold szA
    rw [← List.sum_append_nat, ← List.map_append, List.take_append_drop]
  omega
theorem szR_le (rs : List RlD) (i : Nat) : szR (rs.take i) ≤ szR rs := by
  have : szR rs = szR (rs.take i) + szR (rs.drop i) := by
    unfold szR
    rw [← List.sum_append_nat, ← List.map_append, List.take_append_drop]
  omega

set_option maxRecDepth 100000 in
set_option maxHeartbeats 4000000 in
theorem big8_any (rs : List RlD) (a : Option Addr) (cap : Nat) (ts : List ByteArray) (ta : Option Addr) (tc : Nat) (w : World) (hl : Rls w a cap rs) (ht : Nms w ta tc ts) (hfew : rs.length + ts.length + szR rs ≤ 1000000000000) :
    Calls Try.prog 14 #[.agg #[.slice a rs.length cap], .slice ta ts.length tc] w fun r w' => r = .returned (.bool (decide (600 < rs.length + ts.length + szR rs))) ∧ Below w.heap.size w w' := by
  have hlm : rs.length ≤ cap ∧ cap ≤ 9223372036854775807 := ⟨hl.le, hl.max⟩
  have htm : ts.length ≤ tc ∧ tc ≤ 9223372036854775807 := ⟨by have := ht.le; rwa [List.length_map] at this, ht.max⟩
  have hA0 := Blk.new w 24 #[.slice a rs.length cap]
  have hb0 : Below w.heap.size w (w.alloc (.cells #[.slice a rs.length cap] 24)) := (Below.refl _ w).alloc (Nat.le_refl _) _
  obtain ⟨R, hR⟩ : ∃ R : Nat → Nat, Hid ((fun k => szR (rs.take k)) = R) := ⟨_, Lib.hid rfl⟩
  have hR0 : Hid (R 0 = 0) := Lib.hid (by rw [← hR.out]; rfl)
  have hRe : Hid (szR rs = R rs.length) := Lib.hid (by rw [← hR.out]; show _ = szR (rs.take rs.length); rw [List.take_length])
  have hRl : Hid (∀ k, R k ≤ R rs.length) := Lib.hid (fun k => by rw [← hRe.out, ← hR.out]; exact szR_le rs k)
  have hRs : Hid (∀ k (h : k < rs.length), R (k + 1) = R k + (rs[k].ds.length + szA rs[k].ds)) := Lib.hid (fun k h => by rw [← hR.out]; exact szR_take rs k h)
  rw [hRe.out] at hfew ⊢
  obtain ⟨L, HL⟩ : ∃ L, Hid (rs.length = L) := ⟨_, Lib.hid rfl⟩
  obtain ⟨T, HT⟩ : ∃ L, Hid (ts.length = L) := ⟨_, Lib.hid rfl⟩
  rw [HL.out] at hlm hA0 hb0 hfew hRl ⊢
  rw [HT.out] at htm hfew ⊢
  obtain ⟨Z, hZ⟩ : ∃ Z, Hid (R L = Z) := ⟨_, Lib.hid rfl⟩
  rw [hZ.out] at hfew hRl ⊢
  have x0 := hA0.cell 0
  have xl := hA0.lt
  simp only [List.getElem?_cons_zero] at x0
  have h1 : (L : Int) + (T : Int) ≤ 1000000000000 := by omega
  have h2 : (0 : Int) ≤ (L : Int) + (T : Int) := by omega
  go_enter Try.func14, Try.ntmps14
  go_wp2_with (fail)
  generalize hW : World.alloc w _ = W at x0 xl hA0 hb0 ⊢
  clear hW hA0 x0 xl
  go_loopw [5, 19] (fun nv iv wr => ∃ (k n : Nat), k ≤ L ∧ iv = .int .i64 (k : Int) ∧ nv = .int .i64 (n : Int) ∧ Hid (n = L + T + R k) ∧ Below W.heap.size W wr) (fun _ iv _ => L - (intOf iv).toNat)
  case atStart => exact ⟨0, L + T, Nat.zero_le _, rfl, by go_num, Lib.hid (by rw [hR0.out]; rfl), Below.refl _ _⟩
  case round =>
    clear h1 h2
    obtain ⟨k, n, hk, rfl, rfl, HN, hbr⟩ := hrel
    have hbw := hb0.trans (hbr.mono hb0.size)
    by_cases hlt : k < L
    · have hkI : (k : Int) < (L : Int) := by omega
      have hkI0 : (0 : Int) ≤ (k : Int) := by omega
      have hkl : k < rs.length := by rw [HL.out]; exact hlt
      obtain ⟨b, off, rfl⟩ := hl.at_ k hkl
      obtain ⟨c0, c1⟩ := (hl.grown hbw).cell b off rfl k hkl
      have hm : rs[k] ∈ rs := List.getElem_mem hkl
      have hst := hRs.out k hkl
      have hle := hRl.out (k + 1)
      obtain ⟨e, he⟩ : ∃ v, Hid (rs[k] = v) := ⟨_, Lib.hid rfl⟩
      rw [he.out] at c0 c1 hm hst
      have hbl := World.block_lt_of_cell? wr _ c0
      have hal := Lib.hid (hl.alts e hm)
      have hB0 := Blk.new wr 34 #[.string e.n, .slice e.a e.ds.length e.c]
      have hb1 : Below W.heap.size W (wr.alloc (.cells #[.string e.n, .slice e.a e.ds.length e.c] 34)) := hbr.alloc hbr.size _
      have hem : e.ds.length ≤ e.c ∧ e.c ≤ 9223372036854775807 := ⟨by have := hal.out.row.le; rw [List.length_map] at this; exact this, hal.out.row.max⟩
      obtain ⟨A, hA⟩ : ∃ A : Nat → Nat, Hid ((fun k => szA (e.ds.take k)) = A) := ⟨_, Lib.hid rfl⟩
      have hA0 : Hid (A 0 = 0) := Lib.hid (by rw [← hA.out]; rfl)
      have hAe : Hid (szA e.ds = A e.ds.length) := Lib.hid (by rw [← hA.out]; show _ = szA (e.ds.take e.ds.length); rw [List.take_length])
      have hAl : Hid (∀ k, A k ≤ A e.ds.length) := Lib.hid (fun k => by rw [← hAe.out, ← hA.out]; exact szA_le e.ds k)
      have hAs : Hid (∀ k (h : k < e.ds.length), A (k + 1) = A k + e.ds[k].l.length) := Lib.hid (fun k h => by rw [← hA.out]; exact szA_take e.ds k h)
      rw [hAe.out] at hst
      obtain ⟨M, HM⟩ : ∃ M, Hid (e.ds.length = M) := ⟨_, Lib.hid rfl⟩
      rw [HM.out] at hB0 hb1 c1 hem hst hAl
      have hbd : n + M + A M ≤ 1000000000000 := by
        have := HN.out
        omega
      have hst2 : Hid (R (k + 1) = R k + (M + A M)) := Lib.hid hst
      clear hst hle
      have y1 := hB0.cell 1
      have yl := hB0.lt
      simp only [List.getElem?_cons_zero, List.getElem?_cons_succ] at y1
      clear hm hB0
      have h1 : (n : Int) + (M : Int) ≤ 1000000000000 := by omega
      have h2 : (0 : Int) ≤ (n : Int) + (M : Int) := by omega
      go_wp2_with (fail)
      generalize hV : World.alloc wr _ = V at y1 yl hb1 ⊢
      clear hV y1 yl
      go_loopw [5, 31] (fun nv iv wx => ∃ (j m : Nat), j ≤ M ∧ iv = .int .i64 (j : Int) ∧ nv = .int .i64 (m : Int) ∧ Hid (m = n + M + A j) ∧ Below W.heap.size W wx) (fun _ iv _ => M - (intOf iv).toNat)
      case atStart => exact ⟨0, n + M, Nat.zero_le _, rfl, by go_num, Lib.hid (by rw [hA0.out]; rfl), hb1⟩
      case round =>
        clear h1 h2 c0 c1 hbl hbw hbr hb1
        obtain ⟨j, m, hj, rfl, rfl, HMm, hbr⟩ := hrel
        by_cases hjt : j < M
        · have hjI : (j : Int) < (M : Int) := by omega
          have hjI0 : (0 : Int) ≤ (j : Int) := by omega
          have hjl : j < e.ds.length := by rw [HM.out]; exact hjt
          have hbw := hb0.trans (hbr.mono hb0.size)
          obtain ⟨eb, eo, hea⟩ := hal.out.row.at_ j (by rw [List.length_map]; exact hjl)
          have c2 := (hal.out.grown hbw).row.cell eb eo hea j (by rw [List.length_map]; exact hjl)
          rw [List.getElem_map, altv] at c2
          have hst := hAs.out j hjl
          have hle := hAl.out (j + 1)
          obtain ⟨d, hd⟩ : ∃ v, Hid (e.ds[j] = v) := ⟨_, Lib.hid rfl⟩
          rw [hd.out] at c2 hst
          have hbl2 := World.block_lt_of_cell? _ _ c2
          obtain ⟨N, HNn⟩ : ∃ M, Hid (d.l.length = M) := ⟨_, Lib.hid rfl⟩
          rw [HNn.out] at c2 hst
          have hbd2 : m + N ≤ 1000000000000 := by
            have := HMm.out
            omega
          have hst3 : Hid (m + N = n + M + A (j + 1)) := Lib.hid (by have := HMm.out; omega)
          clear hst hle
          rw [hea] at *
          have h1 : (m : Int) + (N : Int) ≤ 1000000000000 := by omega
          have h2 : (0 : Int) ≤ (m : Int) + (N : Int) := by omega
          go_wp2_with (fail)
          exact ⟨⟨j + 1, m + N, by omega, by go_num, by go_num, hst3, hbr⟩, by simp [intOf]; omega⟩
        · obtain rfl : j = M := by omega
          have hjI : ¬ (j : Int) < (j : Int) := by omega
          go_wp2_with (fail)
          exact ⟨⟨k + 1, m, by omega, by go_num, rfl, Lib.hid (by rw [HMm.out, hst2.out, HN.out]; omega), hbr⟩, by simp [intOf]; omega⟩
    · obtain rfl : k = L := by omega
      have hkI : ¬ (k : Int) < (k : Int) := by omega
      have hq : Hid (decide (600 < k + T + Z) = decide ((600 : Int) < (n : Int))) := Lib.hid (by rw [HN.out, hZ.out]; exact decide_eq_decide.2 (by omega))
      by_cases h6 : (600 : Int) < (n : Int)
      · go_wp2_with (fail)
        exact bodyPost_ret (v := .bool true) (by simp [results, Try.results14, go_sem]; try first | rfl | assumption | omega) rfl ⟨by rw [hq.out, decide_eq_true h6], hbw⟩
      · go_wp2_with (fail)
        exact bodyPost_ret (v := .bool false) (by simp [results, Try.results14, go_sem]; try first | rfl | assumption | omega) rfl ⟨by rw [hq.out, decide_eq_false (by omega : ¬ (600 : Int) < (n : Int))], hbw⟩
end Go.Proofs.Ytiopbjgpaidemaa

namespace Go.Proofs.Ytiopbjgpaidemaa
open Go.RowKit Go.Maps

attribute [local go_sem] Oper.semAt_some

/-- The ways that a grammar and tokens give. -/
def tokW (t : ByteArray) : WyD ByteArray := ⟨t, [], none, 0⟩
def altW (r : RlD) (d : AltD) : WyD ByteArray := ⟨r.n, d.l, d.a, d.c⟩
def rulW (r : RlD) : List (WyD ByteArray) := r.ds.map (altW r)
def waysW (ts : List ByteArray) (rs : List RlD) : List (WyD ByteArray) := ts.map tokW ++ rs.flatMap rulW
theorem rulW_len (rs : List RlD) : (rs.flatMap rulW).length ≤ szR rs := by
  induction rs with
  | nil => simp [szR]
  | cons r rs ih =>
    have e : szR (r :: rs) = (r.ds.length + szA r.ds) + szR rs := by simp [szR]
    rw [List.flatMap_cons, List.length_append, e]
    simp only [rulW, List.length_map]
    omega
theorem waysW_mem (ts : List ByteArray) (rs : List RlD) (w : Wy ByteArray) : w ∈ (waysW ts rs).map WyD.p ↔ (∃ t ∈ ts, w = ⟨t, []⟩) ∨ ∃ r ∈ rs, ∃ d ∈ r.ds, w = ⟨r.n, d.l⟩ := by
  simp only [waysW, List.map_append, List.mem_append, List.mem_map, List.mem_flatMap, rulW]
  constructor
  · rintro (⟨_, ⟨t, ht, rfl⟩, rfl⟩ | ⟨_, ⟨r, hr, d, hd, rfl⟩, rfl⟩)
    · exact .inl ⟨t, ht, rfl⟩
    · exact .inr ⟨r, hr, d, hd, rfl⟩
  · rintro (⟨t, ht, rfl⟩ | ⟨r, hr, d, hd, rfl⟩)
    · exact .inl ⟨_, ⟨t, ht, rfl⟩, rfl⟩
    · exact .inr ⟨_, ⟨r, hr, d, hd, rfl⟩, rfl⟩
theorem mk_fert (ts : List ByteArray) (rs : List RlD) (s : ByteArray) : Mk ((waysW ts rs).map WyD.p) s ↔ Fert (grP rs) ts s := by
  constructor
  · intro h
    induction h with
    | @by_ w h1 _ ih =>
      rcases (waysW_mem ts rs w).1 h1 with ⟨t, ht, rfl⟩ | ⟨r, hr, d, hd, rfl⟩
      · exact .tok ht
      · exact Fert.rule (r := r.p) (a := d.l) (List.mem_map_of_mem hr) (List.mem_map_of_mem hd) ih
  · intro h
    induction h with
    | tok ht => exact Mk.by_ (w := ⟨_, []⟩) ((waysW_mem ts rs _).2 (.inl ⟨_, ht, rfl⟩)) (fun x hx => by cases hx)
    | rule h1 h2 _ ih =>
      obtain ⟨r, hr, rfl⟩ := List.mem_map.1 h1
      obtain ⟨d, hd, rfl⟩ := List.mem_map.1 h2
      exact Mk.by_ (w := ⟨r.n, d.l⟩) ((waysW_mem ts rs _).2 (.inr ⟨r, hr, d, hd, rfl⟩)) ih
/-- All names are such as Go can hold. -/
structure FitG (rs : List RlD) (ts : List ByteArray) : Prop where
  rules : ∀ r ∈ rs, r.n.size ≤ maxLen
  toks : ∀ t ∈ ts, t.size ≤ maxLen
  alts : ∀ r ∈ rs, ∀ d ∈ r.ds, ∀ n ∈ d.l, n.size ≤ maxLen
theorem waysW_ok {w : World} {a : Option Addr} {cap : Nat} {rs : List RlD} {ts : List ByteArray} (hl : Rls w a cap rs) (hf : FitG rs ts) : ∀ y ∈ waysW ts rs, NdOkS w y := by
  intro y hy
  rcases List.mem_append.1 hy with hy | hy
  · obtain ⟨t, ht, rfl⟩ := List.mem_map.1 hy
    exact ⟨Vs.nil w, hf.toks t ht, fun x hx => by cases hx⟩
  · obtain ⟨r, hr, hy⟩ := List.mem_flatMap.1 hy
    obtain ⟨d, hd, rfl⟩ := List.mem_map.1 hy
    exact ⟨(hl.alts r hr).nms d hd, hf.rules r hr, hf.alts r hr d hd⟩
/-- What is told of a set of names. -/
def FertQ (w : World) (Q : ByteArray → Prop) (e : Ending) (W' : World) : Prop := ∃ sb n M, e = .returned (.map (some sb)) ∧ SetT W' sb n M ∧ n ≤ 10000000000000 ∧ (∀ x, M x = true ↔ Q x) ∧ w.heap.size ≤ sb ∧ Below w.heap.size w W'

set_option maxRecDepth 100000 in
set_option maxHeartbeats 8000000 in
theorem fertile_any (rs : List RlD) (a : Option Addr) (cap : Nat) (ts : List ByteArray) (ta : Option Addr) (tc : Nat) (w : World) (hl : Rls w a cap rs) (ht : Nms w ta tc ts) (hf : FitG rs ts) (hfew : rs.length + ts.length + szR rs ≤ 10000) :
    Calls Try.prog 57 #[.agg #[.slice a rs.length cap], .slice ta ts.length tc] w (FertQ w (Fert (grP rs) ts)) := by
  have hlm : rs.length ≤ cap ∧ cap ≤ 9223372036854775807 := ⟨hl.le, hl.max⟩
  have htm : ts.length ≤ tc ∧ tc ≤ 9223372036854775807 := ⟨by have := ht.le; rwa [List.length_map] at this, ht.max⟩
  have hA0 := Blk.new w 24 #[.slice a rs.length cap]
  have hb0 : Below w.heap.size w (w.alloc (.cells #[.slice a rs.length cap] 24)) := (Below.refl _ w).alloc (Nat.le_refl _) _
  have Hok := Lib.hid (waysW_ok hl hf)
  have Hrl := Lib.hid (rulW_len rs)
  obtain ⟨R, hR⟩ : ∃ R : Nat → List (WyD ByteArray), Hid ((fun k => ts.map tokW ++ (rs.take k).flatMap rulW) = R) := ⟨_, Lib.hid rfl⟩
  have hR0 : Hid (R 0 = ts.map tokW) := Lib.hid (by rw [← hR.out]; simp)
  have hRe : Hid (waysW ts rs = R rs.length) := Lib.hid (by rw [← hR.out]; show _ = ts.map tokW ++ (rs.take rs.length).flatMap rulW; rw [List.take_length]; rfl)
  have hRs : Hid (∀ k (hk : k < rs.length), R (k + 1) = R k ++ rulW rs[k]) := Lib.hid (fun k hk => by
    rw [← hR.out]
    show ts.map tokW ++ (rs.take (k + 1)).flatMap rulW = ts.map tokW ++ (rs.take k).flatMap rulW ++ _
    rw [List.take_add_one, List.getElem?_eq_getElem hk, List.flatMap_append, List.append_assoc]
    simp)
  have hRl : Hid (∀ k, k ≤ rs.length → (R k).length ≤ 10000) := Lib.hid (fun k hk => by
    rw [← hR.out]
    show (ts.map tokW ++ (rs.take k).flatMap rulW).length ≤ _
    have h1 := rulW_len (rs.take k)
    have h2 := szR_le rs k
    rw [List.length_append, List.length_map]
    omega)
  have Hmade := Lib.hid (fun (W : World) (b0 : Nat) (a : Option Addr) (c : Nat) (h : OwnYS W b0 a c (R rs.length)) (hb : Below w.heap.size w W) => made_anyS w W b0 (R rs.length) a c h (by rw [← hRe.out]; exact Hok.out) hb (hRl.out _ (Nat.le_refl _)))
  have Hmk : Hid (∀ x, Mk ((R rs.length).map WyD.p) x ↔ Fert (grP rs) ts x) := Lib.hid (fun x => by rw [← hRe.out]; exact mk_fert ts rs x)
  obtain ⟨L, HL⟩ : ∃ L, Hid (rs.length = L) := ⟨_, Lib.hid rfl⟩
  obtain ⟨T, HT⟩ : ∃ L, Hid (ts.length = L) := ⟨_, Lib.hid rfl⟩
  rw [HL.out] at hlm hfew hA0 hb0 hRl Hmade Hmk ⊢
  rw [HT.out] at hfew htm ⊢
  have Hmade' : Hid (∀ (W : World) (b0 : Nat) (a : Option Addr) (c : Nat), OwnYS W b0 a c (R L) → Below w.heap.size w W → Calls Try.prog 98 #[.slice a (R L).length c] W (MadeQS W ((R L).map WyD.p))) := Hmade
  clear Hmade
  obtain ⟨Q, hQ⟩ : ∃ Q, Hid (Fert (grP rs) ts = Q) := ⟨_, Lib.hid rfl⟩
  rw [hQ.out] at Hmk ⊢
  have x0 := hA0.cell 0
  have xl := hA0.lt
  simp only [List.getElem?_cons_zero] at x0
  have HA := Lib.hid hA0
  obtain ⟨base, hbase⟩ : ∃ q, Hid (w.heap.size = q) := ⟨_, Lib.hid rfl⟩
  have hbW : base ≤ w.heap.size := by rw [hbase.out]; exact Nat.le_refl _
  clear hA0
  go_enter Try.func57, Try.ntmps57
  go_wp2_with (fail)
  rw [hbase.out] at HA hb0 xl x0 ⊢
  generalize hV : World.alloc w _ = V at HA hb0 xl x0 ⊢
  clear hV
  go_loopw [5, 14] (fun wv iv wr => ∃ (k n : Nat) (ya : Option Addr) (yc : Nat), k ≤ T ∧ iv = .int .i64 (k : Int) ∧ wv = .slice ya n yc ∧ Hid (n = k) ∧ Hid (OwnYS wr base ya yc ((ts.take k).map tokW)) ∧ Hid (Blk wr base 24 [.slice a L cap]) ∧ Below base w wr) (fun _ iv _ => T - (intOf iv).toNat)
  case atStart => exact ⟨0, 0, none, 0, Nat.zero_le _, rfl, rfl, Lib.hid rfl, Lib.hid (OwnYS.nil _ _), HA, hb0⟩
  case round =>
    obtain ⟨k, n, ya, yc, hk, rfl, rfl, hn, HY, HAr, hbr⟩ := hrel
    have hbr2 := hbr
    rw [← hbase.out] at hbr2
    by_cases hlt : k < T
    · have hkI : (k : Int) < (T : Int) := by omega
      have hkI0 : (0 : Int) ≤ (k : Int) := by omega
      have hkl : k < ts.length := by rw [HT.out]; exact hlt
      obtain ⟨b, off, rfl⟩ := ht.at_ k (by rw [List.length_map]; exact hkl)
      have c0 := (ht.grown hbr2).cell b off rfl k (by rw [List.length_map]; exact hkl)
      rw [List.getElem_map] at c0
      have hst : Hid ((ts.take (k + 1)).map tokW = (ts.take k).map tokW ++ [tokW ts[k]]) := Lib.hid (by rw [List.take_add_one, List.getElem?_eq_getElem hkl, List.map_append]; rfl)
      obtain ⟨e, he⟩ : ∃ v, Hid (ts[k] = v) := ⟨_, Lib.hid rfl⟩
      rw [he.out] at c0 hst
      have hbl := World.block_lt_of_cell? _ _ c0
      have hyl : ((ts.take k).map tokW).length = k := by simp; omega
      obtain ⟨ya2, yc2, w2, hrun, ho2, hg2, _⟩ := OwnYS.push HY.out (tokW e) 130 (by omega) (Nat.le_trans hbW hbr.size)
      rw [hyl, ← hn.out] at hrun
      rw [hyl] at hg2
      have HY2 : Hid (OwnYS w2 base ya2 yc2 ((ts.take (k + 1)).map tokW)) := Lib.hid (by rw [hst.out]; exact ho2)
      have HA2 := Lib.hid (HAr.out.kept hg2 (fun e0 => own_ne_ty HY.out HAr.out (by decide) (by rw [hyl]; exact e0.symm)))
      have hb2 := hbr.trans (belowAt hg2 (B := base) (fun i e0 => (own_typ HY.out i (by rw [hyl]; exact e0)).1) (Nat.le_trans hbW hbr.size))
      have Hrun := Lib.hid hrun
      have Hb2 := Lib.hid hb2
      dsimp only [tokW, List.length_nil] at Hrun
      clear hrun ho2 hg2 hyl hb2 hbr2
      go_wp2_with (at_builtin; refine wpList_append_run rfl _ _ 130 130 rfl _ _ _ _ rfl rfl Hrun.out ?_)
      exact ⟨⟨k + 1, n + 1, ya2, yc2, by omega, by go_num, rfl, Lib.hid (by rw [hn.out]), HY2, HA2, Hb2.out⟩, by simp [intOf]; omega⟩
    · obtain rfl : k = T := by omega
      have hkI : ¬ (k : Int) < (k : Int) := by omega
      have z0 := HAr.out.cell 0
      have zl := HAr.out.lt
      simp only [List.getElem?_cons_zero] at z0
      have HY0 : Hid (OwnYS wr base ya yc (R 0)) := Lib.hid (by
        have := HY.out
        rw [List.take_of_length_le (by rw [HT.out]; exact Nat.le_refl _)] at this
        rw [hR0.out]
        exact this)
      have hn0 : Hid (n = (R 0).length) := Lib.hid (by rw [hR0.out, hn.out, List.length_map, HT.out])
      have Hbr := Lib.hid hbr
      clear HY hbr2
      go_wp2_with (fail)
      go_loopw [5, 27] (fun wv iv wr => ∃ (i n : Nat) (ya : Option Addr) (yc : Nat), i ≤ L ∧ iv = .int .i64 (i : Int) ∧ wv = .slice ya n yc ∧ Hid (n = (R i).length) ∧ Hid (OwnYS wr base ya yc (R i)) ∧ Below base w wr) (fun _ iv _ => L - (intOf iv).toNat)
      case atStart => exact ⟨0, n, ya, yc, Nat.zero_le _, rfl, rfl, hn0, HY0, Hbr.out⟩
      case round =>
        clear HAr hbr z0 zl HY0 Hbr hn0 hn
        obtain ⟨i, n, ya, yc, hi, rfl, rfl, hn, HY, hbr⟩ := hrel
        have hbr2 := hbr
        rw [← hbase.out] at hbr2
        by_cases hlti : i < L
        · have hiI : (i : Int) < (L : Int) := by omega
          have hiI0 : (0 : Int) ≤ (i : Int) := by omega
          have hil : i < rs.length := by rw [HL.out]; exact hlti
          obtain ⟨b, off, rfl⟩ := hl.at_ i hil
          obtain ⟨c0, c1⟩ := (hl.grown hbr2).cell b off rfl i hil
          have hm : rs[i] ∈ rs := List.getElem_mem hil
          have hst := Lib.hid (hRs.out i hil)
          have hln := hRl.out (i + 1) (by omega)
          rw [hst.out, List.length_append] at hln
          obtain ⟨e, he⟩ : ∃ v, Hid (rs[i] = v) := ⟨_, Lib.hid rfl⟩
          rw [he.out] at c0 c1 hm hst hln
          have hal := hl.alts e hm
          have hbl := World.block_lt_of_cell? wr _ c0
          have hB0 := Blk.new wr 34 #[.string e.n, .slice e.a e.ds.length e.c]
          have hg1 : Below wr.heap.size wr (wr.alloc (.cells #[.string e.n, .slice e.a e.ds.length e.c] 34)) := (Below.refl _ wr).alloc (Nat.le_refl _) _
          have HY1 := Lib.hid (HY.out.below hg1)
          have hb1 := Lib.hid (hbr.trans (hg1.mono (Nat.le_trans hbW hbr.size)))
          have hdm : e.ds.length ≤ e.c ∧ e.c ≤ 9223372036854775807 := ⟨by have := hal.row.le; rwa [List.length_map] at this, hal.row.max⟩
          have HB0 := Lib.hid hB0
          obtain ⟨D, hD⟩ : ∃ M, Hid (e.ds.length = M) := ⟨_, Lib.hid rfl⟩
          have hrl : (rulW e).length = e.ds.length := by simp [rulW]
          rw [hrl] at hln
          rw [hD.out] at HB0 c1 hdm HY1 hb1 hln
          have y0 := HB0.out.cell 0
          have y1 := HB0.out.cell 1
          have yl := HB0.out.lt
          simp only [List.getElem?_cons_zero, List.getElem?_cons_succ] at y0 y1
          clear hB0 hg1 hm hrl hbr2
          go_wp2_with (fail)
          obtain ⟨rb, hrb⟩ : ∃ q, Hid (wr.heap.size = q) := ⟨_, Lib.hid rfl⟩
          have hrbb : base ≤ rb := by rw [← hrb.out]; exact Nat.le_trans hbW hbr.size
          rw [hrb.out] at HB0 ⊢
          go_loopw [5, 34] (fun wv iv wv2 => ∃ (j n : Nat) (ya : Option Addr) (yc : Nat), j ≤ D ∧ iv = .int .i64 (j : Int) ∧ wv = .slice ya n yc ∧ Hid (n = (R i ++ (e.ds.take j).map (altW e)).length) ∧ Hid (OwnYS wv2 base ya yc (R i ++ (e.ds.take j).map (altW e))) ∧ Hid (Blk wv2 rb 34 [.string e.n, .slice e.a D e.c]) ∧ Hid (∀ g, (Value.slice ya n yc).ownBlock = some g → g ≠ rb) ∧ Below base w wv2) (fun _ iv _ => D - (intOf iv).toNat)
          case atStart => exact ⟨0, n, ya, yc, Nat.zero_le _, rfl, rfl, Lib.hid (by rw [hn.out]; simp), Lib.hid (by simpa using HY1.out), HB0, Lib.hid (fun g e0 => by have := own_lt HY.out g (by rw [← hn.out]; exact e0); rw [hrb.out] at this; omega), hb1.out⟩
          case round =>
            clear c0 c1 hbl y0 y1 yl HY1 HB0 hb1 hn HY hbr
            obtain ⟨j, n, ya, yc, hj, rfl, rfl, hn, HY, HB, Hne, hbr⟩ := hrel
            have hbr2 := hbr
            rw [← hbase.out] at hbr2
            have z0 := HB.out.cell 0
            have zl := HB.out.lt
            simp only [List.getElem?_cons_zero] at z0
            by_cases hltj : j < D
            · have hjI : (j : Int) < (D : Int) := by omega
              have hjI0 : (0 : Int) ≤ (j : Int) := by omega
              have hjl : j < e.ds.length := by rw [hD.out]; exact hltj
              have har := (hal.grown hbr2).row
              obtain ⟨b2, off2, hea⟩ := har.at_ j (by rw [List.length_map]; exact hjl)
              have c0 := har.cell b2 off2 hea j (by rw [List.length_map]; exact hjl)
              rw [List.getElem_map] at c0
              have hst2 : Hid (R i ++ (e.ds.take (j + 1)).map (altW e) = (R i ++ (e.ds.take j).map (altW e)) ++ [altW e e.ds[j]]) := Lib.hid (by rw [List.take_add_one, List.getElem?_eq_getElem hjl, List.map_append, List.append_assoc]; rfl)
              obtain ⟨d, hd⟩ : ∃ v, Hid (e.ds[j] = v) := ⟨_, Lib.hid rfl⟩
              rw [hd.out] at c0 hst2
              have hbl2 := World.block_lt_of_cell? _ _ c0
              have hyl : (R i ++ (e.ds.take j).map (altW e)).length ≤ 10000 := by rw [List.length_append, List.length_map]; have := List.length_take_le j e.ds; omega
              obtain ⟨ya2, yc2, w2, hrun, ho2, hg2, hlies⟩ := OwnYS.push HY.out (altW e d) 130 (by omega) (Nat.le_trans hbW hbr.size)
              rw [← hn.out] at hrun hg2 hlies
              have HY2 : Hid (OwnYS w2 base ya2 yc2 (R i ++ (e.ds.take (j + 1)).map (altW e))) := Lib.hid (by rw [hst2.out]; exact ho2)
              have hn2 : Hid (n + 1 = (R i ++ (e.ds.take (j + 1)).map (altW e)).length) := Lib.hid (by rw [hst2.out, List.length_append, ← hn.out]; rfl)
              have HB2 := Lib.hid (HB.out.kept hg2 (fun e0 => Hne.out rb e0.symm rfl))
              have hb2 := hbr.trans (belowAt hg2 (B := base) (fun i0 e0 => (own_typ HY.out i0 (by rw [← hn.out]; exact e0)).1) (Nat.le_trans hbW hbr.size))
              have Hne2 : Hid (∀ g, (Value.slice ya2 (n + 1) yc2).ownBlock = some g → g ≠ rb) := Lib.hid (fun g e0 => by
                have hl2 : (R i ++ (e.ds.take j).map (altW e) ++ [altW e d]).length = n + 1 := by rw [List.length_append, ← hn.out]; rfl
                rcases hlies g (by rw [hl2]; exact e0) with h1 | h1
                · exact Hne.out g h1
                · omega)
              have Hrun := Lib.hid hrun
              have Hb2 := Lib.hid hb2
              dsimp only [altW] at Hrun
              rw [hea] at *
              clear hrun ho2 hg2 hyl hb2 hbr2 har hlies hl
              go_wp2_with (at_builtin; refine wpList_append_run rfl _ _ 130 130 rfl _ _ _ _ rfl rfl Hrun.out ?_)
              exact ⟨⟨j + 1, n + 1, ya2, yc2, by omega, by go_num, rfl, hn2, HY2, HB2, Hne2, Hb2.out⟩, by simp [intOf]; omega⟩
            · obtain rfl : j = D := by omega
              have hjI : ¬ (j : Int) < (j : Int) := by omega
              have hen : Hid (R i ++ (e.ds.take j).map (altW e) = R (i + 1)) := Lib.hid (by rw [hst.out, List.take_of_length_le (by rw [hD.out]; exact Nat.le_refl _)]; rfl)
              rw [hen.out] at hn HY
              go_wp2_with (fail)
              exact ⟨⟨i + 1, n, ya, yc, by omega, by go_num, rfl, hn, HY, hbr⟩, by simp [intOf]; omega⟩
        · obtain rfl : i = L := by omega
          have hiI : ¬ (i : Int) < (i : Int) := by omega
          have Hc := Lib.hid (Hmade'.out wr base ya yc HY.out hbr2)
          rw [← hn.out] at Hc
          have Hbr := Lib.hid hbr2
          clear hbr hbr2
          go_wp2_with (fail)
          refine Hc.out.mono ?_
          rintro r w3 ⟨sb, ns, M, rfl, hs, hns, hM, hlo, hb3⟩
          have HS := Lib.hid hs
          have HM : Hid (∀ x, M x = true ↔ Q x) := Lib.hid (fun x => (hM x).trans (Hmk.out x))
          have hb4 := Hbr.out.trans (hb3.mono Hbr.out.size)
          have hlo2 := Nat.le_trans Hbr.out.size hlo
          clear hs hM
          go_wp2_with (fail)
          exact bodyPost_ret (v := .map (some sb)) (by simp [results, Try.results57, go_sem]; try first | rfl | assumption | omega) rfl ⟨sb, ns, M, rfl, HS.out, hns, HM.out, hlo2, hb4⟩
end Go.Proofs.Ytiopbjgpaidemaa

namespace Go.Proofs.Ytiopbjgpaidemaa
open Go.RowKit Go.Maps

attribute [local go_sem] Oper.semAt_some

theorem ads_part {l m : List ByteArray} {s : List ByteArray × List ByteArray} : (adsR l s).2.length ≤ s.2.length + l.length := by
  obtain ⟨t, h1, h2, h3⟩ := ads_pre l s
  have h4 := nodupLe t l h2 (fun x hx => (h3 x hx).2)
  rw [h1]
  simp
  omega

set_option maxRecDepth 100000 in
set_option maxHeartbeats 8000000 in
theorem ledNext_any (w0 W0 W : World) (a : Option Addr) (cap : Nat) (rs ts : List RlD) (gbase wb ng rb n : Nat) (f : ByteArray → Value) (oa : Option Addr) (oc : Nat) (F O : List ByteArray) (x : ByteArray) (hl : Rls w0 a cap rs) (hf : FitG rs [])
    (hG : GrpAt W0 gbase wb ng rs f) (hrb : Blk W0 rb 134 [.map (some wb)]) (h0 : Below w0.heap.size w0 W0) (hb : Below W0.heap.size W0 W) (hx : x.size ≤ maxLen)
    (hR : RchAtS W W0.heap.size (W0.heap.size + 1 + 1) (W0.heap.size + 1) W0.heap.size n oa oc F O) (hO : O.length ≤ 400000) (hn : n ≤ 1000000000000) (hfew : rs.length ≤ 1000) (hfew2 : (namesR (grP rs)).length ≤ 100000) :
    Calls Try.prog 100 #[.string x, addVS (W0.heap.size + 1) (W0.heap.size + 1 + 1), .pointer (some ⟨rb, 0, none⟩)] W (NextQS W W0.heap.size (W0.heap.size + 1 + 1) (W0.heap.size + 1) W0.heap.size n F O (StepR rs) x) := by
  have hGw := hG.below hb
  obtain ⟨xa, xc, hfx, hox⟩ := hGw.rows x
  have hlk := hGw.wait.look 134 22 Try.underlying134 (by kernel_rfl) x hx
  rw [hfx] at hlk
  have hrw := hrb.below hb hrb.lt
  have r0 := hrw.cell 0
  have rl := hrw.lt
  simp only [List.getElem?_cons_zero] at r0
  have hom := hox.le8
  obtain ⟨qs, hqs⟩ : ∃ q, Hid (ofN rs x = q) := ⟨_, Lib.hid rfl⟩
  have hsub : Hid (∀ q ∈ qs, q ∈ rs) := Lib.hid (fun q hq => by rw [← hqs.out] at hq; exact (List.mem_filter.1 hq).1)
  have Hnx : Hid (∀ y, y ∈ qs.flatMap (fun r => flat r.ds) ↔ StepR rs x y) := Lib.hid (fun y => by rw [← hqs.out]; exact nextR_mem rs x y)
  have Hnl : Hid ((qs.flatMap (fun r => flat r.ds)).length ≤ 100000) := Lib.hid (by rw [← hqs.out]; exact Nat.le_trans (nextR_len rs x) hfew2)
  have hqf : qs.length ≤ 1000 := by rw [← hqs.out]; exact Nat.le_trans (ofN_len rs x) hfew
  rw [hqs.out] at hlk hox hom
  -- the rules of the name lie where the grammar's do
  have Hx := Lib.hid hox
  have Hxlt : Hid (∀ g, (Value.slice xa qs.length xc).ownBlock = some g → g < W0.heap.size) := Lib.hid (fun g e => (hG.lt x g (by rw [hfx, hqs.out]; exact e)).2)
  obtain ⟨R, hRd⟩ : ∃ R : Nat → List ByteArray, Hid ((fun k => (qs.take k).flatMap (fun r => flat r.ds)) = R) := ⟨_, Lib.hid rfl⟩
  have hR0 : Hid (R 0 = []) := Lib.hid (by rw [← hRd.out]; rfl)
  have hRe : Hid (qs.flatMap (fun r => flat r.ds) = R qs.length) := Lib.hid (by rw [← hRd.out]; show _ = (qs.take qs.length).flatMap _; rw [List.take_length])
  have hRs : Hid (∀ k (hk : k < qs.length), R (k + 1) = R k ++ flat qs[k].ds) := Lib.hid (fun k hk => by
    rw [← hRd.out]
    show (qs.take (k + 1)).flatMap _ = (qs.take k).flatMap _ ++ _
    rw [List.take_add_one, List.getElem?_eq_getElem hk, List.flatMap_append]
    simp)
  have hRl : Hid (∀ k, (R k).length ≤ 100000) := Lib.hid (fun k => by
    have h1 := Hnl.out
    rw [← List.take_append_drop k qs, List.flatMap_append, List.length_append] at h1
    rw [← hRd.out]
    show ((qs.take k).flatMap _).length ≤ _
    omega)
  rw [hRe.out] at Hnx
  obtain ⟨Q, hQ⟩ : ∃ Q, Hid (NextQS W W0.heap.size (W0.heap.size + 1 + 1) (W0.heap.size + 1) W0.heap.size n F O (StepR rs) x = Q) := ⟨_, Lib.hid rfl⟩
  rw [hQ.out]
  obtain ⟨L, HL⟩ : ∃ L, Hid (qs.length = L) := ⟨_, Lib.hid rfl⟩
  rw [HL.out] at hlk hom Hxlt Hnx hqf
  have HRa : Hid (RchAtS W W0.heap.size (W0.heap.size + 1 + 1) (W0.heap.size + 1) W0.heap.size n oa oc (adsR (R 0) (F, O)).1 (adsR (R 0) (F, O)).2) := Lib.hid (by rw [hR0.out]; exact hR)
  have hbW := hb.size
  have Hb := Lib.hid hb
  obtain ⟨base, hbase⟩ : ∃ q, Hid (W0.heap.size = q) := ⟨_, Lib.hid rfl⟩
  have H0 := Lib.hid h0
  rw [hbase.out] at Hb hbW Hxlt HRa ⊢
  clear hb hR hG hrb hGw hrw hox hfx h0
  go_enter Try.func100, Try.ntmps100
  go_wp2_with (fail)
  go_loopw [11] (fun iv wr => ∃ (k n' : Nat) (a' : Option Addr) (c' : Nat), k ≤ L ∧ iv = .int .i64 (k : Int) ∧ Hid (n' ≤ n + (R k).length) ∧ Hid (RchAtS wr base (base + 1 + 1) (base + 1) base n' a' c' (adsR (R k) (F, O)).1 (adsR (R k) (F, O)).2) ∧ Below base W wr) (fun iv _ => L - (intOf iv).toNat)
  case atStart => exact ⟨0, n, oa, oc, Nat.zero_le _, rfl, Lib.hid (by omega), HRa, Below.refl _ _⟩
  case round =>
    obtain ⟨k, n', a', c', hk, rfl, hn', HA, hbr⟩ := hrel
    clear HRa
    by_cases hlt : k < L
    · have hkI : (k : Int) < (L : Int) := by omega
      have hkI0 : (0 : Int) ≤ (k : Int) := by omega
      have hkl : k < qs.length := by rw [HL.out]; exact hlt
      -- the row lies below what Reach keeps
      have hox : OwnR W gbase xa xc qs := Hx.out
      obtain ⟨g, rfl, _, hg2, c0, c1⟩ := hox.at8 k hkl
      have hgb : g < base := Hxlt.out g rfl
      have c0 := (hbr.cell (p := ⟨g, k * 2, none⟩) hgb).trans c0
      have c1 := (hbr.cell (p := ⟨g, k * 2 + 1, none⟩) hgb).trans c1
      have hm := hsub.out qs[k] (List.getElem_mem hkl)
      have hst := hRs.out k hkl
      obtain ⟨e, he⟩ : ∃ v, Hid (qs[k] = v) := ⟨_, Lib.hid rfl⟩
      rw [he.out] at c0 c1 hm hst
      have hbl := World.block_lt_of_cell? wr _ c0
      have hal := hl.alts e hm
      have hfl : (flat e.ds).length ≤ 100000 := by
        have := hRl.out (k + 1)
        rw [hst, List.length_append] at this
        omega
      have hw0 : Below w0.heap.size w0 wr := by
        have h1 := H0.out.trans (Hb.out.mono (by rw [← hbase.out]; exact H0.out.size))
        exact h1.trans (hbr.mono (by rw [← hbase.out]; exact H0.out.size))
      have hB0 := Blk.new wr 34 #[.string e.n, .slice e.a e.ds.length e.c]
      have hg1 : Below wr.heap.size wr (wr.alloc (.cells #[.string e.n, .slice e.a e.ds.length e.c] 34)) := (Below.refl _ wr).alloc (Nat.le_refl _) _
      have Hc := Lib.hid (namesIn_any e _ (hal.grown (hw0.trans (hg1.mono hw0.size))) (by omega))
      have HA1 := Lib.hid (HA.out.below hg1)
      have hb1 := Lib.hid (hbr.trans (hg1.mono (Nat.le_trans hbW hbr.size)))
      have hdm : e.ds.length ≤ e.c ∧ e.c ≤ 9223372036854775807 := ⟨by have := hal.row.le; rwa [List.length_map] at this, hal.row.max⟩
      have Hst := Lib.hid hst
      have Hfit : Hid (∀ y ∈ flat e.ds, y.size ≤ maxLen) := Lib.hid (fun y hy => by
        obtain ⟨l, h1, h2⟩ := List.mem_flatten.1 hy
        obtain ⟨d, h3, rfl⟩ := List.mem_map.1 h1
        exact hf.alts e hm d h3 y h2)
      obtain ⟨D, hD⟩ : ∃ M, Hid (e.ds.length = M) := ⟨_, Lib.hid rfl⟩
      rw [hD.out] at hB0 c1 hdm HA1 hb1 Hc
      have y0 := hB0.cell 0
      have y1 := hB0.cell 1
      have yl := hB0.lt
      simp only [List.getElem?_cons_zero, List.getElem?_cons_succ] at y0 y1
      clear hB0 hg1 hm hst hw0 hal hox
      go_wp2_with (fail)
      refine Hc.out.mono ?_
      clear Hc
      rintro r w3 ⟨la, lc, nl, rfl, hol, hb3⟩
      obtain rfl : (flat e.ds).length = nl := OwnS.len hol
      have HA3 := Lib.hid (HA1.out.below hb3)
      have Hb3 := Lib.hid (hb1.out.trans (hb3.mono (Nat.le_trans hbW hb1.out.size)))
      have hbb : base ≤ (wr.alloc (.cells #[.string e.n, .slice e.a D e.c] 34)).heap.size := Nat.le_trans hbW hb1.out.size
      have hap : ApLS w3 la (base + 1 + 1) base a' (adsR (R k) (F, O)).2.length c' := fun g2 off e2 => by
        subst e2
        obtain ⟨h1, h2⟩ := World.ownsRow.lt hol g2 rfl
        have h3 := HA1.out.obx.lt
        have h4 := HA1.out.lo
        refine ⟨by omega, by obtain ⟨es, kk, h5⟩ := HA1.out.set.obj; have := (Array.getElem?_eq_some_iff.1 h5).1; omega, h2, fun e3 => ?_⟩
        have := (World.ownsRow.lt HA1.out.own g2 e3).2
        omega
      have Hc := Lib.hid (addR_anyS w3 base (base + 1 + 1) (base + 1) base n' a' c' _ _ (flat e.ds) la lc HA3.out (own_vs hol) hap Hfit.out (by have h1 := ads_part (l := R k) (m := []) (s := (F, O)); have h2 := hRl.out k; dsimp only at h1; omega) (by have := hn'.out; have := hRl.out k; omega) (Nat.le_trans hbb hb3.size))
      clear hap hol hb3
      go_wp2_with (fail)
      refine Hc.out.mono ?_
      clear Hc
      rintro r w5 ⟨rfl, n5, a5, c5, hn5, hR5, hb5⟩
      have HR5 : Hid (RchAtS w5 base (base + 1 + 1) (base + 1) base n5 a5 c5 (adsR (R (k + 1)) (F, O)).1 (adsR (R (k + 1)) (F, O)).2) := Lib.hid (by rw [Hst.out, ads_app]; exact hR5)
      have Hb5 := Lib.hid (Hb3.out.trans hb5)
      have Hn5 : Hid (n5 ≤ n + (R (k + 1)).length) := Lib.hid (by rw [Hst.out, List.length_append]; have := hn'.out; omega)
      clear hR5 hb5 hn5
      go_wp2_with (fail)
      exact ⟨⟨k + 1, n5, a5, c5, by omega, by go_num, Hn5, HR5, Hb5.out⟩, by simp [intOf]; omega⟩
    · obtain rfl : k = L := by omega
      have hkI : ¬ (k : Int) < (k : Int) := by omega
      go_wp2_with (fail)
      refine bodyPost_end (v := .tuple #[]) (by simp [results, Try.results100, go_sem]; try rfl) rfl ?_
      rw [← hQ.out]
      exact ⟨rfl, R k, n', a', c', Hnx.out, by have h1 := hn'.out; have h2 := hRl.out k; omega, by rw [hbase.out]; exact HA.out, by rw [hbase.out]; exact hbr⟩
end Go.Proofs.Ytiopbjgpaidemaa

