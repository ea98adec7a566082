/- Texts joined: Jr Js Jt Wc Wd Wh Wm Wn Wq Wr Wt Wu Wv Wy Wx Wo Fe Ff Qc Ql Qd. -/
import Derived.Test.YtldmgifphkpdlaaRUAp
import Derived.Test.YtldmgifphkpdlaaRUAn
import Derived.Test.YtldmgifphkpdlaaRUAg
import Derived.Test.YtldmgifphkpdlaaRUAo
import Derived.Shelf.Slices.CompactI
import Derived.Test.YtldmgifphkpdlaaProg
import Derived.Lib.AppendZeros
import Derived.Sort.OwnSortedInts
set_option linter.unusedVariables false
set_option linter.unusedSimpArgs false
namespace Go.Proofs.Ytldmgifphkpdlaa
open Go.RowKit Go.Maps
attribute [local go_sem] Oper.semAt_some
/-- One step up. -/
def StL (ML : Nat → Int → Bool) (N : Nat) (x y : Int) : Prop := ∃ r : Nat, x = (r : Int) ∧ r < N ∧ ML r y = true
theorem pair_nodup {l : List Int} (h : l.Pairwise (· < ·)) : l.Nodup := h.imp (fun h => by omega)
theorem ris_len {l : List Int} {P : Int → Prop} (h : Ris l P) (U : List Int) (hU : ∀ x, P x → x ∈ U) : l.length ≤ U.length := nodupLe l U (pair_nodup h.up) (fun x hx => hU x ((h.mem x).1 hx))
theorem rng_few {W : World} {b r n cnt : Nat} {M left : Int → Bool} (h : RngZ W b r n M left cnt) (U : List Int) (hU : ∀ x, M x = true → x ∈ U) : cnt ≤ U.length := by
 obtain ⟨D, lf, h1, h2, h3, _⟩ := h
 obtain ⟨hk1, hk2⟩ := set_keys h1.owns
 have hl : (Go.intKeys D).length ≤ U.length := nodupLe _ U hk1 (fun x hx => hU x (by rw [← h3]; exact (hk2 x).1 hx))
 obtain ⟨es, clock, since, seen, c0, q1, q2, q3, q4, q5, q6, q7, _⟩ := h1
 have h4 : (leftOf es seen).size ≤ es.size := by unfold leftOf; exact Array.size_filter_le
 have h5 : (Go.intKeys D).length = es.size := by
  rw [q4]
  unfold Go.intKeys
  rw [List.length_map, Go.length_sorted, List.length_map, Array.length_toList]
 omega
set_option maxRecDepth 100000 in
set_option maxHeartbeats 16000000 in
theorem up_any (W0 W : World) (lb5 hb lb N n m : Nat) (ba : Option Addr) (bc : Nat) (la : Option Addr) (lc : Nat) (p q : Nat → Nat) (MB ML : Nat → Int → Bool) (B : Nat) (oa : Option Addr) (oc : Nat) (F O : List Int) (r : Nat)
 (hB : Blk W0 lb5 75 [.slice la N lc]) (hN : NbAt W0 B hb lb N m ba bc la lc p q MB ML) (hm : m ≤ 1000000000) (hML : ∀ r y, ML r y = true → 0 ≤ y ∧ y < (N : Int)) (hN60 : N ≤ 60) (hb : Below W0.heap.size W0 W) (hr : r < N)
 (hR : RchAtZ W W0.heap.size (W0.heap.size + 1 + 1) (W0.heap.size + 1) W0.heap.size n oa oc F O) (hO : O.length ≤ 400000) (hn : n ≤ 1000000000000) :
 Calls Try.prog 62 #[.int .i64 (r : Int), addVZ (W0.heap.size + 1) (W0.heap.size + 1 + 1), .pointer (some ⟨lb5, 0, none⟩)] W (NextQZ W W0.heap.size (W0.heap.size + 1 + 1) (W0.heap.size + 1) W0.heap.size n F O (StL ML N) (r : Int)) := by
 have hNw := hN.below hb
 have hBw := hB.below hb hB.lt
 obtain ⟨g1, hg1, hc1⟩ := row_at hNw.r2 hr
 have hc1l := World.block_lt_of_cell? _ _ hc1
 have hle := row_le hNw.r2
 have Ho := Lib.hid (ordered_any (q r) m (ML r) W (hNw.s2 r hr) (by omega))
 have x0 := hBw.cell 0
 have xl := hBw.lt
 simp only [List.getElem?_cons_zero] at x0
 have hrI : (r : Int) < (N : Int) := by omega
 have hrI0 : (0 : Int) ≤ (r : Int) := by omega
 have HR := Lib.hid hR
 have hbW := hb.size
 have Hst : Hid (∀ y, ML r y = true ↔ StL ML N (r : Int) y) := Lib.hid (fun y => ⟨fun h => ⟨r, rfl, hr, h⟩, fun ⟨s, e, _, h⟩ => by
  have e2 : r = s := by omega
  rw [e2]; exact h⟩)
 have HMLr : Hid (∀ y, ML r y = true → 0 ≤ y ∧ y < (N : Int)) := Lib.hid (hML r)
 obtain ⟨Q, hQ⟩ : ∃ Q, Hid (NextQZ W W0.heap.size (W0.heap.size + 1 + 1) (W0.heap.size + 1) W0.heap.size n F O (StL ML N) (r : Int) = Q) := ⟨_, Lib.hid rfl⟩
 rw [hQ.out]
 have HQ := Lib.hid hQ.out
 obtain ⟨qr, hqr⟩ : ∃ x, Hid (q r = x) := ⟨_, Lib.hid rfl⟩
 rw [hqr.out] at hc1 Ho
 obtain ⟨base, hbase⟩ : ∃ q, Hid (W0.heap.size = q) := ⟨_, Lib.hid rfl⟩
 rw [hbase.out] at HR HQ hbW ⊢
 subst hg1
 clear hNw hBw hR hB hN hb hML hQ
 go_enter Try.func62, Try.ntmps62
 go_wp2_with (fail)
 refine Ho.out.mono ?_
 rintro e w2 ⟨ra, rc, l, rfl, hr2, ho2, hb2⟩
 have HR2 := Lib.hid (HR.out.below hb2)
 have Hb2 : Hid (Below base W w2) := Lib.hid (hb2.mono hbW)
 have hll := ris_len hr2 ((List.range N).map (fun i : Nat => (i : Int))) (fun x hx => by
  have := HMLr.out x hx
  exact List.mem_map.2 ⟨x.toNat, List.mem_range.2 (by omega), by omega⟩)
 rw [List.length_map, List.length_range] at hll
 have hap : ApLZ w2 ra (base + 1 + 1) base oa O.length oc := fun g off e => by
  subst e
  obtain ⟨h1, h2⟩ := World.ownsRow.lt ho2 g rfl
  have h3 := HR.out.obx.lt
  have h4 := HR.out.set.lt
  refine ⟨by omega, by omega, h2, fun e3 => ?_⟩
  have := (World.ownsRow.lt HR.out.own g e3).2
  omega
 have Hc := Lib.hid (addR_anyZ w2 base (base + 1 + 1) (base + 1) base n oa oc F O l ra rc HR2.out ho2.vs hap (fun x hx => wf9 (by have := HMLr.out x ((hr2.mem x).1 hx); omega)) (by omega) (by omega) (Nat.le_trans hbW hb2.size))
 have HL : Hid (∀ y, y ∈ l ↔ StL ML N (r : Int) y) := Lib.hid (fun y => (hr2.mem y).trans (Hst.out y))
 obtain ⟨LL, hLL⟩ : ∃ q, Hid (l.length = q) := ⟨_, Lib.hid rfl⟩
 have hll2 : LL ≤ 60 := by rw [← hLL.out]; omega
 rw [hLL.out] at Hc ⊢
 clear hr2 ho2 hb2 hap hll x0 xl hc1 hc1l
 go_wp2_with (fail)
 refine Hc.out.mono ?_
 rintro e w5 ⟨rfl, n5, a5, c5, hn5, hR5, hb5⟩
 have Hfin : Hid (Q (.returned (.tuple #[])) w5) := Lib.hid (by
  rw [← HQ.out]
  exact ⟨rfl, l, n5, a5, c5, HL.out, by rw [hLL.out] at hn5; omega, hR5, Hb2.out.trans hb5⟩)
 clear hR5 hb5 hn5
 go_wp2_with (fail)
 first | exact Hfin.out | exact bodyPost_end (v := .tuple #[]) (by simp [results, Try.results62, go_sem]; try rfl) rfl Hfin.out
end Go.Proofs.Ytldmgifphkpdlaa
namespace Go.Proofs.Ytldmgifphkpdlaa
open Go.RowKit Go.Maps
attribute [local go_sem] Oper.semAt_some
/-- What is behind some rules that have come. -/
noncomputable def nxB (MM left : Int → Bool) (MB : Nat → Int → Bool) (z : Int) : Bool := by
 classical exact decide (∃ o : Nat, MM (o : Int) = true ∧ left (o : Int) = false ∧ MB o z = true)
theorem nxB_iff {MM left : Int → Bool} {MB : Nat → Int → Bool} {z : Int} : nxB MM left MB z = true ↔ ∃ o : Nat, MM (o : Int) = true ∧ left (o : Int) = false ∧ MB o z = true := by unfold nxB; simp
theorem nxB_start (MM : Int → Bool) (MB : Nat → Int → Bool) (z : Int) : nxB MM MM MB z = false := by
 cases e : nxB MM MM MB z
 ·rfl
 ·obtain ⟨o, h1, h2, _⟩ := nxB_iff.1 e
  rw [h1] at h2
  cases h2
theorem nxB_step {MM left : Int → Bool} {MB : Nat → Int → Bool} {r : Nat} (hM : MM (r : Int) = true) (z : Int) : nxB MM (fun y => left y && !decide (y = (r : Int))) MB z = (nxB MM left MB z || MB r z) := by
 rw [Bool.eq_iff_iff, Bool.or_eq_true, nxB_iff, nxB_iff]
 constructor
 ·rintro ⟨o, h1, h2, h3⟩
  by_cases e : o = r
  ·subst e; exact .inr h3
  ·have : ¬ (o : Int) = (r : Int) := by omega
   simp [this] at h2
   exact .inl ⟨o, h1, h2, h3⟩
 ·rintro (⟨o, h1, h2, h3⟩ | h)
  ·exact ⟨o, h1, by simp [h2], h3⟩
  ·exact ⟨r, hM, by simp, h⟩
/-- What lies behind, and the end behind the first. -/
def mbE (MB : Nat → Int → Bool) (T : Nat) (s : Nat) (y : Int) : Bool := MB s y || (decide (s = 0) && decide (y = (T : Int)))
theorem mb_beh {al : List (List (List Int))} {f : Nat → Bool} {T s : Nat} {y : Int} : mbE (mbO f (occG al al.length)) T s y = true ↔ BehP al f T s y := by
 unfold mbE mbO BehP
 rw [Bool.or_eq_true, List.any_eq_true, Bool.and_eq_true, decide_eq_true_eq, decide_eq_true_eq]
 constructor
 ·rintro (⟨o, ho, h⟩ | h)
  ·obtain ⟨r, hr, a, ha, u, x, hu, hx, rfl⟩ := occG_mem.1 ho
   rw [Bool.and_eq_true, decide_eq_true_eq, decide_eq_true_eq] at h
   exact .inr ⟨r, hr, a, ha, u, by rw [h.1]; dsimp only; rw [of_ruL hx]; exact hu, h.2⟩
  ·exact .inl h
 ·rintro (h | ⟨r, hr, a, ha, u, hu, hy⟩)
  ·exact .inr h
  ·refine .inl ⟨_, occG_mem.2 ⟨r, hr, a, ha, u, _, hu, by omega, rfl⟩, ?_⟩
   rw [Bool.and_eq_true, decide_eq_true_eq, decide_eq_true_eq]
   exact ⟨(ruL_of s).symm, hy⟩
theorem ml_last {al : List (List (List Int))} {f : Nat → Bool} {s : Nat} {y : Int} : mlO f (occG al al.length) s y = true ↔ ∃ r : Nat, y = (r : Int) ∧ LstP al f s r := by
 unfold mlO LstP
 rw [List.any_eq_true]
 constructor
 ·rintro ⟨o, ho, h⟩
  obtain ⟨r, hr, a, ha, u, x, hu, hx, rfl⟩ := occG_mem.1 ho
  rw [Bool.and_eq_true, Bool.and_eq_true, decide_eq_true_eq, decide_eq_true_eq] at h
  exact ⟨r, h.2.2, hr, a, ha, u, by rw [h.1]; dsimp only; rw [of_ruL hx]; exact hu, h.2.1⟩
 ·rintro ⟨r, rfl, hr, a, ha, u, hu, he⟩
  refine ⟨_, occG_mem.2 ⟨r, hr, a, ha, u, _, hu, by omega, rfl⟩, ?_⟩
  rw [Bool.and_eq_true, Bool.and_eq_true, decide_eq_true_eq, decide_eq_true_eq]
  exact ⟨(ruL_of s).symm, he, rfl⟩
/-- What is reached upwards, as numbers. -/
theorem up_rchd {al : List (List (List Int))} {f : Nat → Bool} {r : Nat} (hr : r < al.length) (x : Int) : Rchd [(r : Int)] (StL (mlO f (occG al al.length)) al.length) x ↔ ∃ o : Nat, x = (o : Int) ∧ o < al.length ∧ Rchd [r] (LstP al f) o := by
 constructor
 ·intro h
  induction h with
  | base h => rw [List.mem_singleton] at h; exact ⟨r, h, hr, .base (by simp)⟩
  | step _ h2 ih =>
   obtain ⟨s, rfl, hs, h3⟩ := h2
   obtain ⟨o, ho, hol, h4⟩ := ih
   obtain ⟨t, rfl, h5⟩ := ml_last.1 h3
   have : s = o := by omega
   subst this
   exact ⟨t, rfl, h5.1, h4.step h5⟩
 ·rintro ⟨o, rfl, ho, h⟩
  clear ho
  have key : Rchd [(r : Int)] (StL (mlO f (occG al al.length)) al.length) (o : Int) ∧ o < al.length := by
   induction h with
   | base h => rw [List.mem_singleton] at h; subst h; exact ⟨.base (by simp), hr⟩
   | step _ h2 ih => exact ⟨ih.1.step ⟨_, rfl, ih.2, ml_last.2 ⟨_, rfl, h2⟩⟩, h2.1⟩
  exact key.1
/-- What follows, by what is put together. -/
theorem fol_of {al : List (List (List Int))} {f : Nat → Bool} {T r : Nat} (hr : r < al.length) {l : List Int} {MM : Int → Bool} (hM : ∀ x, MM x = true ↔ Rchd [(r : Int)] (StL (mlO f (occG al al.length)) al.length) x) (hl : ∀ y, y ∈ l ↔ nxB MM (fun _ => false) (mbE (mbO f (occG al al.length)) T) y = true) (t : Int) : TokP al f l t ↔ FolP al f T r t := by
 rw [tok_iff]
 unfold FolP
 constructor
 ·rintro ⟨x, hx, ht⟩
  obtain ⟨o, h1, _, h3⟩ := nxB_iff.1 ((hl x).1 hx)
  obtain ⟨o', e, _, h4⟩ := (up_rchd hr _).1 ((hM _).1 h1)
  have : o = o' := by omega
  subst this
  exact ⟨ht.1, o, h4, x, mb_beh.1 h3, ht⟩
 ·rintro ⟨h0, o, ho, y, hb, ht⟩
  have hol : o < al.length := by
   cases ho with
   | base h => rw [List.mem_singleton] at h; omega
   | step _ h => exact h.1
  exact ⟨y, (hl y).2 (nxB_iff.2 ⟨o, (hM _).2 ((up_rchd hr _).2 ⟨o, rfl, hol, ho⟩), rfl, mb_beh.2 hb⟩), ht⟩
end Go.Proofs.Ytldmgifphkpdlaa
namespace Go.Proofs.Ytldmgifphkpdlaa
open Go.RowKit Go.Maps
attribute [local go_sem] Oper.semAt_some
end Go.Proofs.Ytldmgifphkpdlaa
namespace Go.Proofs.Ytldmgifphkpdlaa
open Go.RowKit Go.Maps
attribute [local go_sem] Oper.semAt_some
/-- What is made one behind the other. -/
def allocs (w : World) : List Obj → World
 | [] => w
 | o :: os => allocs (w.alloc o) os
theorem allocs_below : ∀ (os : List Obj) (w : World), Below w.heap.size w (allocs w os)
 | [], w => Below.refl _ w
 | o :: os, w => (up1 w o).trans ((allocs_below os (w.alloc o)).mono (by simp))
theorem allocs_at : ∀ (os : List Obj) (w : World) (i : Nat) (o : Obj), os[i]? = some o → (allocs w os).heap[w.heap.size + i]? = some o
 | [], w, i, o, h => by cases h
 | p :: os, w, 0, o, h => by
  have e : p = o := by simpa using h
  subst e
  have := (allocs_below os (w.alloc p)).block w.heap.size (by simp)
  rw [Nat.add_zero]
  show (allocs (w.alloc p) os).heap[w.heap.size]? = some p
  rw [this]
  exact World.alloc_heap_new w p
 | p :: os, w, i + 1, o, h => by
  have := allocs_at os (w.alloc p) i o (by simpa using h)
  rw [show (w.alloc p).heap.size + i = w.heap.size + (i + 1) by simp; omega] at this
  exact this
theorem allocs_blk (os : List Obj) (w : World) (i : Nat) (xs : List Value) (e : TypeId) (h : os[i]? = some (.cells xs.toArray e)) : Blk (allocs w os) (w.heap.size + i) e xs := allocs_at os w i _ h
theorem allocs_vs (os : List Obj) (w : World) (i : Nat) (xs : List Value) (e : TypeId) (h : os[i]? = some (.cells xs.toArray e)) (n : Nat) (hn : xs.length = n) (hm : n ≤ maxLen) : Vs (allocs w os) (some ⟨w.heap.size + i, 0, none⟩) n xs := own_vals (e := e) (base := 0) ⟨by rw [hn, Nat.mul_one], .inr ⟨w.heap.size + i, n, xs.toArray, rfl, Nat.zero_le _, allocs_blk os w i xs e h, Nat.le_refl _, hm, by simp [hn], by rw [List.take_of_length_le (by simp [hn])]⟩⟩ hn.symm
theorem e9_mx (n : Nat) (h : n ≤ 10) : n ≤ maxLen := by unfold maxLen; omega
theorem lit_L1 (W : World) (x : List Int) (n : Nat) (hx : x.length = n) (hn : n ≤ 10) : AltsI (allocs W [.cells (x.map (Value.int .i64)).toArray 3, .cells #[.slice (some ⟨W.heap.size, 0, none⟩) n n] 35]) (some ⟨W.heap.size + 1, 0, none⟩) 1 [⟨x, some ⟨W.heap.size, 0, none⟩, n⟩] := by
 subst hx
 refine ⟨allocs_vs _ W 1 _ _ rfl 1 rfl (e9_mx 1 (by omega)), fun d hd => ?_⟩
 rw [List.mem_singleton] at hd
 subst hd
 exact allocs_vs _ W 0 _ _ rfl x.length (by simp) (e9_mx _ hn)
theorem lit_I (W : World) (x : List Int) (n : Nat) (hx : x.length = n) (hn : n ≤ 10) : Ints (W.alloc (.cells (x.map (Value.int .i64)).toArray 3)) (some ⟨W.heap.size, 0, none⟩) n x := by
 subst hx
 exact allocs_vs [.cells (x.map (Value.int .i64)).toArray 3] W 0 _ _ rfl x.length (by simp) (e9_mx _ hn)
end Go.Proofs.Ytldmgifphkpdlaa
namespace Go.Proofs.Ytldmgifphkpdlaa
open Go.RowKit Go.Maps
attribute [local go_sem] Oper.semAt_some
end Go.Proofs.Ytldmgifphkpdlaa
namespace Go.Proofs.Ytldmgifphkpdlaa
open Go.RowKit Go.Maps
attribute [local go_sem] Oper.semAt_some
set_option maxRecDepth 100000 in
set_option maxHeartbeats 16000000 in
theorem in9_any (l : List Int) (a : Option Addr) (cap : Nat) (v : Int) (w : World) (hl : Ints w a cap l) :
 Calls Try.prog 39 #[.slice a l.length cap, .int .i64 v] w fun e w' => e = .returned (.bool (decide (v ∈ l))) ∧ w' = w := by
 have hlm : l.length ≤ cap ∧ cap ≤ 9223372036854775807 := ⟨by have := hl.le; rw [List.length_map] at this; exact this, hl.max⟩
 obtain ⟨L, HL⟩ : ∃ L, Hid (l.length = L) := ⟨_, Lib.hid rfl⟩
 rw [HL.out] at hlm ⊢
 obtain ⟨B, HB⟩ : ∃ B, Hid (decide (v ∈ l) = B) := ⟨_, Lib.hid rfl⟩
 rw [HB.out]
 go_enter Try.func39, Try.ntmps39
 go_wp2_with (fail)
 go_loopw [6, 9] (fun _ i wr => ∃ (k : Nat), k ≤ L ∧ i = .int .i64 k ∧ Hid (B = decide (v ∈ l.drop k)) ∧ wr = w) (fun _ i _ => L - (RowKit.intOf i).toNat)
 case atStart => exact ⟨0, by omega, rfl, Lib.hid HB.out.symm, rfl⟩
 case round =>
  obtain ⟨k, hk, rfl, HR, hwr⟩ := hrel
  subst hwr
  by_cases hlt : k < L
  ·have hkI : (k : Int) < (L : Int) := by omega
   have hkI0 : (0 : Int) ≤ (k : Int) := by omega
   have hkl : k < l.length := by rw [HL.out]; exact hlt
   obtain ⟨b, off, rfl⟩ := hl.at_ k (by rw [List.length_map]; exact hkl)
   have c0 := hl.cell b off rfl k (by rw [List.length_map]; exact hkl)
   rw [List.getElem_map] at c0
   have hbl := World.block_lt_of_cell? _ _ c0
   have hdr : Hid (l.drop k = l[k] :: l.drop (k + 1)) := Lib.hid (List.drop_eq_getElem_cons hkl)
   obtain ⟨u, hu⟩ : ∃ u, Hid (l[k] = u) := ⟨_, Lib.hid rfl⟩
   rw [hu.out] at c0 hdr
   by_cases he : u = v
   ·have HT : Hid (B = true) := Lib.hid (by rw [HR.out, hdr.out, he]; simp)
    subst he
    go_wp2_with (fail)
    exact bodyPost_ret (v := .bool true) (by simp [results, Try.results39, go_sem]; try first | rfl | assumption | omega) rfl ⟨by rw [HT.out], rfl⟩
   ·have heI : (u == v) = false := by rw [beq_eq_false_iff_ne]; exact he
    have HN : Hid (B = decide (v ∈ l.drop (k + 1))) := Lib.hid (by
     rw [HR.out, hdr.out]
     simp [Ne.symm he])
    go_wp2_with (fail)
    exact ⟨⟨k + 1, by omega, by go_num, HN, by first | rfl | trivial⟩, by simp [RowKit.intOf]; omega⟩
  ·have hke : k = L := by omega
   have hkI : ¬ (k : Int) < (L : Int) := by omega
   have HK : Hid (B = false) := Lib.hid (by rw [HR.out, List.drop_eq_nil_of_le (by rw [HL.out]; omega)]; simp)
   clear hke
   go_wp2_with (fail)
   exact bodyPost_ret (v := .bool false) (by simp [results, Try.results39, go_sem]; try first | rfl | assumption | omega) rfl ⟨by rw [HK.out], rfl⟩
end Go.Proofs.Ytldmgifphkpdlaa
namespace Go.Proofs.Ytldmgifphkpdlaa
open Go.RowKit Go.Maps
attribute [local go_sem] Oper.semAt_some
theorem OwnKZ.app {w : World} {base cap : Nat} {a : Option Addr} {l : List Int} (h : OwnKZ w base a cap l) (b : Option Addr) (bc : Nat) (m : List Int) (hm : Ints w b bc m) (ty : TypeId) (hn : l.length + m.length ≤ 1099511627780) (hb : base ≤ w.heap.size) :
 ∃ a' c' w', (Builtin.append_ #[35, 35] ty #[.slice a l.length cap, .slice b m.length bc]).run Try.prog w = .ok (.slice a' (l.length + m.length) c') w' ∧
  OwnKZ w' base a' c' (l ++ m) ∧ Below base w w' := by
 obtain ⟨i0, hi, hz0, hz1, hz2⟩ := info_parts info_keyZ
 cases b with
 | none =>
  have e0 := hm.nil_ rfl
  have hml : m = [] := by
   have := hm.le
   rw [e0] at this
   simpa using this
  subst e0
  subst hml
  exact ⟨a, cap, w, run_append_owned_none (P := Try.prog) w base _ ty _ i0 1 Try.underlying35 hi _ _ _ h, by simpa [OwnKZ] using h, Below.refl _ w⟩
 | some b' =>
  have hnew : ∀ j u, (m.map (Value.int .i64))[j]? = some u → w.cell? (b'.add j) = some u := by
   intro j u hj
   have hjl : j < (m.map (Value.int .i64)).length := (List.getElem?_eq_some_iff.1 hj).1
   obtain ⟨b2, off, e⟩ := hm.at_ j hjl
   have e := Option.some.inj e
   subst e
   have := hm.cell b2 off rfl j hjl
   rw [show (⟨b2, off, none⟩ : Addr).add j = ⟨b2, off + j, none⟩ from by unfold Addr.add; split <;> simp_all]
   exact this.trans ((List.getElem?_eq_getElem hjl).symm.trans hj)
  obtain ⟨v', w', hrun, ho, hg, _⟩ := run_append_own (P := Try.prog) w base 35 ty 3 i0 _ 1 8 Try.underlying35 hi hz0 hz1 hz2 rfl (by decide) _ l.length _ h b' m.length bc (m.map (Value.int .i64)) (by simp) hnew (fun u hu => by
   obtain ⟨x, _, rfl⟩ := List.mem_map.1 hu
   rfl) (by unfold maxLen; omega) (by omega) hb
  obtain ⟨a', cap', rfl⟩ := slice_of_own ho
  refine ⟨a', cap', w', hrun, ?_, belowAt hg (fun g e0 => (own_typ h g e0).1) hb⟩
  unfold OwnKZ
  rw [List.map_append, List.length_append]
  exact ho
end Go.Proofs.Ytldmgifphkpdlaa
namespace Go.Proofs.Ytldmgifphkpdlaa
open Go.RowKit Go.Maps
attribute [local go_sem] Oper.semAt_some
/-- What begins a list is a grammar's token. -/
theorem tok_near {d : CfD} (hf : FitC d) {f : Nat → Bool} {l : List Int} (hl : OkL d.toks.length d.alts.length l) {t : Int} (h : TokP (d.alts.map IrD.p) f l t) : 0 ≤ t ∧ t ≤ 100 := by
 have := rchd_near hf (fun x hx => ⟨(hl x hx).1, by have := (hl x hx).2; have := hf.t; omega⟩) h.2
 exact ⟨h.1, this.2⟩
theorem ris_len101 {l : List Int} {P : Int → Prop} (h : Ris l P) (hP : ∀ t, P t → 0 ≤ t ∧ t ≤ 100) : l.length ≤ 300 := by
 have := ris_len h (nearU 0) (fun x hx => nearU_mem.2 (by have := hP x hx; omega))
 have e : (nearU 0).length = 300 := by unfold nearU; rw [List.length_map, List.length_range]
 omega
end Go.Proofs.Ytldmgifphkpdlaa
namespace Go.Proofs.Ytldmgifphkpdlaa
open Go.RowKit Go.Maps
attribute [local go_sem] Oper.semAt_some
end Go.Proofs.Ytldmgifphkpdlaa
namespace Go.Proofs.Ytldmgifphkpdlaa
open Go.RowKit Go.Maps
attribute [local go_sem] Oper.semAt_some
theorem ris_or {P Q : Int → Prop} {r : List Int} (h : Ris r P) (e : ∀ t, P t ↔ Q t) : Ris r Q := ⟨h.up, fun t => (h.mem t).trans (e t)⟩
end Go.Proofs.Ytldmgifphkpdlaa
namespace Go.Proofs.Ytldmgifphkpdlaa
open Go.RowKit Go.Maps
attribute [local go_sem] Oper.semAt_some
end Go.Proofs.Ytldmgifphkpdlaa
namespace Go.Proofs.Ytldmgifphkpdlaa
open Go.RowKit Go.Maps
attribute [local go_sem] Oper.semAt_some
end Go.Proofs.Ytldmgifphkpdlaa
namespace Go.Proofs.Ytldmgifphkpdlaa
open Go.RowKit
/-- A rule's list in a row of lists. -/
def rowL (es : List IltD) (r : Nat) : List Int := (es.map (fun e => e.l)).getD r []
theorem rowL_at {es : List IltD} {r : Nat} (h : r < es.length) : rowL es r = es[r].l := by
 unfold rowL
 rw [List.getD_eq_getElem?_getD, List.getElem?_map, List.getElem?_eq_getElem h]
 rfl
theorem rowL_set {es : List IltD} {k : Nat} (e : IltD) (h : k < es.length) (r : Nat) : rowL (es.set k e) r = if r = k then e.l else rowL es r := by
 unfold rowL
 rw [List.getD_eq_getElem?_getD, List.getElem?_map, List.getElem?_set]
 by_cases hr : r = k
 ·subst hr
  rw [if_pos rfl, if_pos h, if_pos rfl]
  rfl
 ·rw [if_neg (fun e => hr e.symm), if_neg hr, List.getD_eq_getElem?_getD, List.getElem?_map]
end Go.Proofs.Ytldmgifphkpdlaa
namespace Go.Proofs.Ytldmgifphkpdlaa
open Go.RowKit Go.Maps
section
variable {P : Program} {ops : Array Oper} {Q : Exit → Act → World → Prop} {md : Region.Mode} {S : World → Prop} {z : Nat}
/-- A load that z waits for is taken ahead of all that is apart from it. -/
theorem till_firstY {i : Nat} (Y : List Nat) {oi : Oper} {v : Value} (hi : ops[i]? = some oi) (hs : Region.noSelect ops = true) (hQ : ∀ c a w, Q (.panic c) (a.put oi.dst v) w → Q (.panic c) a w)
 (hiz : i ≠ z) (hYw : ∀ y ∈ Y, ∃ m, (m = i ∨ m ∈ Y) ∧ ∀ oy, ops[y]? = some oy → ∃ e ∈ oy.after, Region.binds md e = true ∧ e.on = m) (hzY : z ∈ Y) :
 ∀ (n : Nat) (L : Array Bool) (a : Act) (w : World), (∀ j oj, ops[j]? = some oj → j ≠ i → L.getD j true = false → (∀ e ∈ oj.after, Region.binds md e = true → e.on ≠ i) → oi.apart ops oj = true) →
  i ∈ Region.ready md ops L → L.getD z true = false → (∀ y ∈ Y, L.getD y true = false) → YieldsIf P ops S oi v a → S w → wpTill P md ops Q z S n (L.setIfInBounds i true) (a.put oi.dst v) w → wpTill P md ops Q z S (n + 1) L a w := by
 intro n
 induction n with
 | zero =>
  intro L a w _ hr _ _ hy hS hH
  refine ⟨fun h0 => absurd hr (by rw [h0]; exact List.not_mem_nil), fun j hj => ?_⟩
  by_cases e : j = i
  ·rw [e]
   exact hy.wpOp hi hS ⟨fun _ => hS, hH⟩
  ·have k := ready_mono hj e
   rw [hH.1] at k
   exact absurd k List.not_mem_nil
 | succ n ih =>
  intro L a w hfr hr hzL hyL hy hS hH
  refine ⟨fun h0 => absurd hr (by rw [h0]; exact List.not_mem_nil), fun j hj => ?_⟩
  by_cases e : j = i
  ·rw [e]
   exact hy.wpOp hi hS ⟨fun _ => hS, hH⟩
  have hun := (mem_ready.1 hr).1
  obtain ⟨hju, oj, hoj, hal⟩ := mem_ready.1 hj
  have hset : ∀ {m : Nat}, L.getD m true = false → ∀ q ∈ oj.after, Region.binds md q = true → q.on ≠ m := by
   intro m hm q hq hb hqi
   have k := hal q hq hb
   rw [hqi] at k
   by_cases hlt : m < L.size
   ·simp [hlt] at k hm
    rw [k] at hm
    cases hm
   ·simp [hlt] at k
  have hwait := hset hun
  have hjY : j ∉ Y := by
   intro hjy
   obtain ⟨m, hm, hw⟩ := hYw j hjy
   obtain ⟨q, hq, hb, hqi⟩ := hw oj hoj
   rcases hm with hm | hm
   ·exact hwait q hq hb (hqi.trans hm)
   ·exact hset (hyL m hm) q hq hb hqi
  have hjz : j ≠ z := fun e => hjY (e ▸ hzY)
  have step := wpOp_putIf hoj (hfr j oj hoj e hju hwait) (fun cs b => Region.noSelect_spec hs i oi cs b hi) (fun cs b => Region.noSelect_spec hs j oj cs b hoj) hQ hy (hH.2 j (ready_mono hj e))
  refine wpOp_mono (fun b u k => ?_) step
  obtain ⟨k1, k2, k3⟩ := k
  have hu : S u := k2 (by rw [getD_set_ne true hjz, getD_set_ne true hiz]; exact hzL)
  refine ⟨fun _ => hu, ih _ b u (fun q oq hoq hqi hqu hqw => ?_) (ready_mono hr (Ne.symm e)) (by rw [getD_set_ne true hjz]; exact hzL) (fun y hy => by have hjy : j ≠ y := (fun e => hjY (by rw [e]; exact hy)); rw [getD_set_ne true hjy]; exact hyL y hy) k1 hu (by rw [Array.setIfInBounds_comm _ _ e]; exact k3)⟩
  refine hfr q oq hoq hqi ?_ hqw
  by_cases hjq : j = q
  ·rw [← hjq]; exact hju
  ·rwa [getD_set_ne true hjq] at hqu
/-- The same, by reckoning: Y is the way from what waits for i to z. -/
theorem till_takeY {i : Nat} (Y : List Nat) {oi : Oper} {v : Value} {n : Nat} {L : Array Bool} {a : Act} {w : World} (hi : ops[i]? = some oi) (hs : Region.noSelect ops = true) (hf : Region.free md ops L i = true) (hr : (Region.ready md ops L).contains i = true)
 (hQ : ∀ c a w, Q (.panic c) (a.put oi.dst v) w → Q (.panic c) a w) (hiz : i ≠ z) (hYw : Y.all (fun y => waitsFor md ops y i || Y.any (fun m => waitsFor md ops y m)) = true) (hzY : z ∈ Y) (hLY : Y.all (fun y => L.getD y true == false) = true)
 (hy : YieldsIf P ops S oi v a) (hS : S w) (h : wpTill P md ops Q z S n (L.setIfInBounds i true) (a.put oi.dst v) w) : wpTill P md ops Q z S (n + 1) L a w := by
 have hL : ∀ y ∈ Y, L.getD y true = false := fun y hy => by
  have := List.all_eq_true.1 hLY y hy
  simpa using this
 refine till_firstY Y hi hs hQ hiz (fun y hy => ?_) hzY n L a w (fun j oj hoj hji hju hno => Region.free_spec hi hf j oj hoj hji hju hno) (by simpa using hr) (hL z hzY) hL hy hS h
 have h1 := List.all_eq_true.1 hYw y hy
 rw [Bool.or_eq_true] at h1
 rcases h1 with h1 | h1
 ·exact ⟨i, .inl rfl, waits_spec h1⟩
 ·obtain ⟨m, hm, h2⟩ := List.any_eq_true.1 h1
  exact ⟨m, .inr hm, waits_spec h2⟩
end
end Go.Proofs.Ytldmgifphkpdlaa
namespace Go.Proofs.Ytldmgifphkpdlaa
open Go.RowKit Go.Maps
attribute [local go_sem] Oper.semAt_some
theorem vs_ne {W : World} {a : Option Addr} {c : Nat} {l : List Value} (h : Vs W a c l) (p : Addr) (v : Value) (hp : ∀ b off, a = some ⟨b, off, none⟩ → p.block ≠ b) : Vs (W.setCell p v) a c l :=
 ⟨h.le, h.max, h.nil_, h.at_, fun b off e i hi => (World.cell?_setCell_far W p ⟨b, off + i, none⟩ v (hp b off e)).trans (h.cell b off e i hi)⟩
end Go.Proofs.Ytldmgifphkpdlaa
namespace Go.Proofs.Ytldmgifphkpdlaa
open Go.RowKit Go.Maps
attribute [local go_sem] Oper.semAt_some
end Go.Proofs.Ytldmgifphkpdlaa
namespace Go.Proofs.Ytldmgifphkpdlaa
open Go.RowKit
/-- What follows is a token or the end. -/
theorem fol_near {d : CfD} (hf : FitC d) {f : Nat → Bool} {r : Nat} {t : Int} (h : FolP (d.alts.map IrD.p) f d.toks.length r t) : 0 ≤ t ∧ t ≤ 100 := by
 refine ⟨h.1, ?_⟩
 refine fol_all (F := fun _ t => t ≤ 100) (by have := hf.t; omega) (fun s r a i hr ha hi t ht => ?_) (fun s r hl t ht => ht) h
 rw [List.length_map] at hr
 have e : (d.alts.map IrD.p).getD r [] = (d.alts[r]).ds.map (fun x => x.l) := by
  rw [List.getD_eq_getElem?_getD, List.getElem?_map, List.getElem?_eq_getElem hr]
  rfl
 rw [e, List.mem_map] at ha
 obtain ⟨x, hx, rfl⟩ := ha
 exact (tok_near hf (l := ahd f (x.l.drop (i + 1))) (fun y hy => (hf.l _ (List.getElem_mem hr) x hx).2 y (List.mem_of_mem_drop (ahd_sub hy))) ht).2
end Go.Proofs.Ytldmgifphkpdlaa
namespace Go.Proofs.Ytldmgifphkpdlaa
open Go.RowKit Go.Maps
attribute [local go_sem] Oper.semAt_some
end Go.Proofs.Ytldmgifphkpdlaa
namespace Go.Proofs.Ytldmgifphkpdlaa
open Go.RowKit
/-- What an alternative of a rule is taken at. -/
def TakP (al : List (List (List Int))) (f : Nat → Bool) (T r : Nat) (a : List Int) (t : Int) : Prop := TokP al f (ahd f a) t ∨ (emp f a = true ∧ FolP al f T r t)
/-- Whether the alternative of that place is taken at it. -/
noncomputable def takB (al : List (List (List Int))) (f : Nat → Bool) (T r : Nat) (t : Int) (j : Nat) : Bool := by
 classical exact decide (∃ a, (al.getD r [])[j]? = some a ∧ TakP al f T r a t)
theorem takB_iff {al : List (List (List Int))} {f : Nat → Bool} {T r j : Nat} {t : Int} : takB al f T r t j = true ↔ ∃ a, (al.getD r [])[j]? = some a ∧ TakP al f T r a t := by unfold takB; simp
theorem takB_at {al : List (List (List Int))} {f : Nat → Bool} {T r j : Nat} {t : Int} {a : List Int} (h : (al.getD r [])[j]? = some a) : takB al f T r t j = true ↔ TakP al f T r a t := by
 rw [takB_iff]
 constructor
 ·rintro ⟨b, hb, h2⟩
  rw [h] at hb
  obtain rfl : a = b := by simpa using hb
  exact h2
 ·intro h2
  exact ⟨a, h, h2⟩
theorem tak_near {d : CfD} (hf : FitC d) {f : Nat → Bool} {r : Nat} {a : List Int} {t : Int} (ha : OkL d.toks.length d.alts.length a) (h : TakP (d.alts.map IrD.p) f d.toks.length r a t) : 0 ≤ t ∧ t ≤ 100 := by
 rcases h with h | ⟨_, h⟩
 ·exact tok_near hf (l := ahd f a) (fun y hy => ha y (ahd_sub hy)) h
 ·exact fol_near hf h
theorem tok_lt {d : CfD} (hf : FitC d) {f : Nat → Bool} {l : List Int} (hl : OkL d.toks.length d.alts.length l) {t : Int} (h : TokP (d.alts.map IrD.p) f l t) : t < d.toks.length := by
 have key : ∀ x, Rchd l (StA (d.alts.map IrD.p) f) x → x < d.toks.length := by
  intro x hx
  induction hx with
  | base h => exact (hl _ h).2
  | step _ h2 _ =>
   obtain ⟨_, a, ha, hy⟩ := h2
   obtain ⟨e, he, q, hq, rfl⟩ := al_mem ha
   exact ((hf.l e he q hq).2 _ (ahd_sub hy)).2
 exact key t h.2
theorem fol_le {d : CfD} (hf : FitC d) {f : Nat → Bool} {r : Nat} {t : Int} (h : FolP (d.alts.map IrD.p) f d.toks.length r t) : t ≤ d.toks.length := by
 refine fol_all (F := fun _ t => t ≤ d.toks.length) (Int.le_refl _) (fun s r a i hr ha hi t ht => ?_) (fun s r hl t ht => ht) h
 rw [List.length_map] at hr
 have e : (d.alts.map IrD.p).getD r [] = (d.alts[r]).ds.map (fun x => x.l) := by
  rw [List.getD_eq_getElem?_getD, List.getElem?_map, List.getElem?_eq_getElem hr]
  rfl
 rw [e, List.mem_map] at ha
 obtain ⟨x, hx, rfl⟩ := ha
 have := tok_lt hf (l := ahd f (x.l.drop (i + 1))) (fun y hy => (hf.l _ (List.getElem_mem hr) x hx).2 y (List.mem_of_mem_drop (ahd_sub hy))) ht
 omega
theorem tak_le {d : CfD} (hf : FitC d) {f : Nat → Bool} {r : Nat} {a : List Int} {t : Int} (ha : OkL d.toks.length d.alts.length a) (h : TakP (d.alts.map IrD.p) f d.toks.length r a t) : 0 ≤ t ∧ t ≤ d.toks.length := by
 rcases h with h | ⟨_, h⟩
 ·exact ⟨h.1, by have := tok_lt hf (l := ahd f a) (fun y hy => ha y (ahd_sub hy)) h; omega⟩
 ·exact ⟨h.1, fol_le hf h⟩
/-- The pairs that the one at a place is the first of, by what both must have. -/
def prAt (p : Nat → Bool) (l : List Nat) (i : Nat) : List (Nat × Nat) := if p (l.getD i 0) = true then ((l.drop (i + 1)).filter p).map (fun b => (l.getD i 0, b)) else []
def prTo (p : Nat → Bool) (l : List Nat) (n : Nat) : List (Nat × Nat) := (List.range n).flatMap (prAt p l)
theorem prTo_snoc (p : Nat → Bool) (l : List Nat) (n : Nat) : prTo p l (n + 1) = prTo p l n ++ prAt p l n := by
 unfold prTo
 rw [List.range_succ, List.flatMap_append, List.flatMap_singleton]
def prF (p : Nat → Bool) : List Nat → List (Nat × Nat)
 | [] => []
 | a :: l => (if p a = true then (l.filter p).map (fun b => (a, b)) else []) ++ prF p l
theorem prTo_is (p : Nat → Bool) : ∀ (l : List Nat), prTo p l l.length = prF p l
 | [] => rfl
 | a :: l => by
  unfold prTo prF
  rw [List.length_cons, List.range_succ_eq_map, List.flatMap_cons, List.flatMap_map]
  congr 1
  exact prTo_is p l
theorem prF_filter (p : Nat → Bool) : ∀ (l : List Nat), prF (fun _ => true) (l.filter p) = prF p l
 | [] => rfl
 | a :: l => by
  rw [List.filter_cons]
  cases e : p a
  ·simp only [prF, e]
   exact prF_filter p l
  ·simp only [prF, e, if_true]
   rw [prF_filter p l, List.filter_eq_self.2 (fun _ _ => rfl)]
/-- Those that clash at a token. -/
def clT (p : Nat → Bool) (n r t : Nat) : List (Nat × Nat × Nat × Nat) := (prF p (List.range n)).map (fun x => (r, t, x.1, x.2))
def clR (p : Nat → Nat → Bool) (n r T : Nat) : List (Nat × Nat × Nat × Nat) := (List.range T).flatMap (fun t => clT (p t) n r t)
def clS (p : Nat → Nat → Nat → Bool) (ns : Nat → Nat) (T R : Nat) : List (Nat × Nat × Nat × Nat) := (List.range R).flatMap (fun r => clR (p r) (ns r) r T)
theorem clR_snoc (p : Nat → Nat → Bool) (n r T : Nat) : clR p n r (T + 1) = clR p n r T ++ clT (p T) n r T := by
 unfold clR
 rw [List.range_succ, List.flatMap_append, List.flatMap_singleton]
theorem clS_snoc (p : Nat → Nat → Nat → Bool) (ns : Nat → Nat) (T R : Nat) : clS p ns T (R + 1) = clS p ns T R ++ clR (p R) (ns R) R T := by
 unfold clS
 rw [List.range_succ, List.flatMap_append, List.flatMap_singleton]
theorem prF_len (p : Nat → Bool) : ∀ (l : List Nat), (prF p l).length ≤ l.length * l.length
 | [] => Nat.le_refl _
 | a :: l => by
  have h1 := prF_len p l
  have h2 : (if p a = true then (l.filter p).map (fun b => (a, b)) else []).length ≤ l.length := by
   split
   ·rw [List.length_map]; exact List.length_filter_le _ _
   ·simp
  rw [prF, List.length_append, List.length_cons]
  have h3 : (l.length + 1) * (l.length + 1) = l.length * l.length + 2 * l.length + 1 := by rw [Nat.add_mul, Nat.mul_add]; omega
  omega
theorem clR_len (p : Nat → Nat → Bool) (n r : Nat) : ∀ T, (clR p n r T).length ≤ T * (n * n)
 | 0 => by simp [clR]
 | T + 1 => by
  rw [clR_snoc, List.length_append, Nat.add_mul]
  have h1 := clR_len p n r T
  have h2 := prF_len (p T) (List.range n)
  rw [List.length_range] at h2
  unfold clT
  rw [List.length_map]
  omega
theorem clS_len (p : Nat → Nat → Nat → Bool) (ns : Nat → Nat) (T B : Nat) (hB : ∀ r, ns r * ns r ≤ B) : ∀ R, (clS p ns T R).length ≤ R * (T * B)
 | 0 => by simp [clS]
 | R + 1 => by
  rw [clS_snoc, List.length_append, Nat.add_mul]
  have h1 := clS_len p ns T B hB R
  have h2 := clR_len (p R) (ns R) R T
  have h3 := Nat.mul_le_mul_left T (hB R)
  omega
/-- No clash: of each rule at each token one is taken at the most. -/
theorem prF_nil {p : Nat → Bool} : ∀ {l : List Nat}, prF p l = [] ↔ (l.filter p).length ≤ 1
 | [] => by simp [prF]
 | a :: l => by
  rw [prF, List.filter_cons]
  cases e : p a
  ·simp only [Bool.false_eq_true, if_false, List.nil_append]
   exact prF_nil
  ·simp only [if_true, List.append_eq_nil_iff, List.map_eq_nil_iff, List.length_cons]
   constructor
   ·rintro ⟨h, _⟩
    rw [h]; simp
   ·intro h
    have h2 : (l.filter p).length = 0 := by omega
    have h3 := List.length_eq_zero_iff.1 h2
    refine ⟨h3, (prF_nil (l := l)).2 (by rw [h3]; simp)⟩
theorem clS_nil {p : Nat → Nat → Nat → Bool} {ns : Nat → Nat} {T R : Nat} : clS p ns T R = [] ↔ ∀ r, r < R → ∀ t, t < T → ((List.range (ns r)).filter (p r t)).length ≤ 1 := by
 unfold clS
 rw [List.flatMap_eq_nil_iff]
 constructor
 ·intro h r hr t ht
  have h1 := h r (List.mem_range.2 hr)
  unfold clR at h1
  rw [List.flatMap_eq_nil_iff] at h1
  have h2 := h1 t (List.mem_range.2 ht)
  unfold clT at h2
  exact prF_nil.1 (List.map_eq_nil_iff.1 h2)
 ·intro h r hr
  unfold clR
  rw [List.flatMap_eq_nil_iff]
  intro t ht
  unfold clT
  rw [List.map_eq_nil_iff]
  exact prF_nil.2 (h r (List.mem_range.1 hr) t (List.mem_range.1 ht))
/-- The only one of a list that has one at most; -1: none. -/
def onlyL (l : List Nat) : Int := match l with | [] => -1 | a :: _ => (a : Int)
/-- A rule's row. -/
def rowT (p : Nat → Nat → Bool) (n T : Nat) : List Int := (List.range T).map (fun t => onlyL ((List.range n).filter (p t)))
theorem rowT_snoc (p : Nat → Nat → Bool) (n T : Nat) : rowT p n (T + 1) = rowT p n T ++ [onlyL ((List.range n).filter (p T))] := by
 unfold rowT
 rw [List.range_succ, List.map_append]
 rfl
end Go.Proofs.Ytldmgifphkpdlaa
namespace Go.Proofs
open Go.Shelf
def Try.laysCompact_ren : Go.Shelf.Ren := ⟨fun | 20 => 101 | n => n, fun | 0 => 0 | 3 => 3 | 4 => 4 | 22 => 35 | n => n, fun | n => n⟩
theorem Try.laysCompact : Go.Proofs.Lays2.n20 Try.prog Try.laysCompact_ren := {
 mixed := by kernel_rfl
 f20 := Try.func101.trans (congrArg some (by kernel_rfl))
 t0 := Try.underlying0
 a0 := Try.isAgg0
 z0 := Try.sizeOf0
 v0 := Try.zeroValue0
 t3 := Try.underlying3
 a3 := Try.isAgg3
 z3 := Try.sizeOf3
 v3 := Try.zeroValue3
 t4 := Try.underlying4
 a4 := Try.isAgg4
 z4 := Try.sizeOf4
 v4 := Try.zeroValue4
 t22 := Try.underlying35
 a22 := Try.isAgg35
 z22 := Try.sizeOf35
 v22 := Try.zeroValue35
 i3 := by kernel_rfl }
end Go.Proofs
namespace Go.Proofs.Ytldmgifphkpdlaa
open Go.RowKit Go.Shelf
attribute [local go_sem] Oper.semAt_some
/-- A shorter row of the same cells. -/
theorem OwnKZ.short {W : World} {base cap g n : Nat} {l : List Int} {ys : List Value} (h : W.ownsRow base 3 1 (.slice (some ⟨g, 0, none⟩) n cap) n (l.map (Value.int .i64) ++ ys)) (hn : l.length ≤ n) : OwnKZ W base (some ⟨g, 0, none⟩) cap l := by
 rcases h.2 with ⟨e1, e2⟩ | ⟨g2, cap', cur, e1, hb, hg, hle, hm, hs, ht⟩
 ·cases e1
 ·simp only [Value.slice.injEq] at e1
  obtain ⟨e1, -, rfl⟩ := e1
  injection e1 with e1
  injection e1 with e1
  subst e1
  refine ⟨by simp, .inr ⟨g, cap, cur, rfl, hb, hg, by omega, hm, hs, ?_⟩⟩
  have h2 := congrArg (List.take (l.length * 1)) ht
  rw [List.take_take, Nat.min_eq_left (by omega), List.take_append_of_le_length (by simp), List.take_of_length_le (l := l.map (Value.int .i64)) (by simp)] at h2
  exact h2
theorem sort10_any (l : List Int) (a : Option Addr) (cap base : Nat) (w : World) (h : OwnKZ w base a cap l) (hl : l.length ≤ 1000000) :
 Calls Try.prog 100 #[.slice a l.length cap] w fun e w' => e = .returned (.tuple #[]) ∧ OwnKZ w' base a cap (l.mergeSort (fun x y => decide (x ≤ y))) ∧ (base ≤ w.heap.size → Below base w w') := by
 rcases h.2 with ⟨e, e0⟩ | ⟨g, cap', cur, e, hb, hk, hnc, hcm, hcs, htk⟩
 ·injection e with e1 e2 e3
  subst e1 e3
  rw [e0]
  refine (Any.slices_Sort_int_none Try.laysSort none 0 w).mono ?_
  rintro e w' ⟨rfl, rfl⟩
  have hn : l = [] := List.length_eq_zero_iff.1 e0
  subst hn
  exact ⟨rfl, by simpa using OwnKZ.nil w' base, fun hb => (Below.refl _ _).mono (Nat.le_refl _)⟩
 ·injection e with e1 e2 e3
  subst e1 e3
  have ht : cur.toList.take l.length = l.map (Value.int .i64) := by
   rw [Nat.mul_one] at htk
   exact htk
  have hH := holds_of_blockI hk ht
  have hg := (Array.getElem?_eq_some_iff.1 hk).1
  have hs := Any.slices_Sort_int Try.laysSort g 0 cap l w hH hg (by omega)
  refine hs.mono ?_
  rintro e w' ⟨rfl, n, os, rfl⟩
  have ho := ownsRow_sortedI (n := n) (os := os) (base := base) (ss := l) (ts := l.mergeSort (fun x y => decide (x ≤ y))) (by simp) hb hk hnc hcm hcs
  refine ⟨rfl, by unfold OwnKZ; rw [List.length_mergeSort]; exact ho, fun hbs => belowAt (grownBy_sortedI _) (fun i e => by injection e with e; omega) hbs⟩
theorem compact10_any (l : List Int) (a : Option Addr) (cap base : Nat) (w : World) (h : OwnKZ w base a cap l) (hl : l.length ≤ 1000000) :
 Calls Try.prog 101 #[.slice a l.length cap] w fun e w' => e = .returned (.slice a (Lib.compact l).length cap) ∧ OwnKZ w' base a cap (Lib.compact l) ∧ (base ≤ w.heap.size → Below base w w') := by
 rcases h.2 with ⟨e, e0⟩ | ⟨g, cap', cur, e, hb, hk, hnc, hcm, hcs, htk⟩
 ·injection e with e1 e2 e3
  subst e1 e3
  have hn : l = [] := List.length_eq_zero_iff.1 e0
  subst hn
  refine (Any.slices_Compact_int_empty Try.laysCompact none 0 w).mono ?_
  rintro e w' ⟨rfl, rfl⟩
  exact ⟨rfl, OwnKZ.nil w' base, fun hb => (Below.refl _ _).mono (Nat.le_refl _)⟩
 ·injection e with e1 e2 e3
  subst e1 e3
  have ht : cur.toList.take l.length = l.map (Value.int .i64) := by
   rw [Nat.mul_one] at htk
   exact htk
  have hH := holds_of_blockI hk ht
  have hs := Any.slices_Compact_int Try.laysCompact g 0 cap l w hH (by omega) hnc
  refine hs.mono ?_
  rintro e w' ⟨rfl, n, rfl⟩
  have hcl : (Lib.compact l).length ≤ l.length := by
   unfold Lib.compact Lib.compactUpTo
   rw [List.length_map]
   have := List.length_filter_le (Lib.keeps l.toArray) (List.range l.length)
   rwa [List.length_range] at this
  have ho := ownsRow_sortedI (n := n) (os := #[]) (base := base) (ss := l) (ts := Lib.compact l ++ List.replicate (l.length - (Lib.compact l).length) 0) (by rw [List.length_append, List.length_replicate]; omega) hb hk hnc hcm hcs
  rw [Sort.grow_empty, List.map_append] at ho
  refine ⟨rfl, OwnKZ.short ho hcl, fun hbs => ?_⟩
  have hg := grownBy_sortedI (w := w) (g := g) (n := n) (os := #[]) (Lib.compact l ++ List.replicate (l.length - (Lib.compact l).length) 0).toArray
  rw [Sort.grow_empty] at hg
  exact belowAt hg (fun i e => by injection e with e; omega) hbs
/-- What is sorted, each once, is rising. -/
theorem compact_ris {l : List Int} (hs : l.Pairwise (· ≤ ·)) : Ris (Lib.compact l) (fun x => x ∈ l) := by
 have key : ∀ m, m ≤ l.length → (Lib.compactUpTo l.toArray m).Pairwise (· < ·) ∧ (∀ x, x ∈ Lib.compactUpTo l.toArray m ↔ x ∈ l.take m) := by
  intro m
  induction m with
  | zero => intro _; simp [Lib.compactUpTo]
  | succ m ih =>
   intro hm
   obtain ⟨h1, h2⟩ := ih (by omega)
   have hml : m < l.length := by omega
   have hd : l.toArray[m]! = l[m] := by simp [hml]
   rw [Lib.compactUpTo_succ, List.take_add_one, List.getElem?_eq_getElem hml, hd]
   have hle : ∀ x ∈ l.take m, x ≤ l[m] := fun x hx => by
    obtain ⟨i, hi, rfl⟩ := List.mem_iff_getElem.1 hx
    rw [List.length_take] at hi
    rw [List.getElem_take]
    exact List.pairwise_iff_getElem.1 hs i m (by omega) hml (by omega)
   cases e : Lib.keeps l.toArray m
   ·simp only [Bool.false_eq_true, if_false, List.append_nil]
    refine ⟨h1, fun x => ?_⟩
    rw [h2, List.mem_append]
    constructor
    ·exact .inl
    ·rintro (h | h)
     ·exact h
     ·have hm0 : m ≠ 0 := fun e2 => by subst e2; simp [Lib.keeps] at e
      have he : l.toArray[m]! = l.toArray[m - 1]! := by
       unfold Lib.keeps at e
       have e := of_decide_eq_false e
       refine Classical.byContradiction fun hn => e (.inr hn)
      have hd1 : l.toArray[m - 1]! = l[m - 1] := by simp [show m - 1 < l.length by omega]
      rw [hd, hd1] at he
      have hx : x = l[m] := by simpa using h
      rw [hx, he, List.mem_iff_getElem]
      exact ⟨m - 1, by rw [List.length_take]; omega, by rw [List.getElem_take]⟩
   ·simp only [if_true]
    refine ⟨?_, fun x => by rw [List.mem_append, h2, List.mem_append]; simp⟩
    rw [List.pairwise_append]
    refine ⟨h1, by simp, fun x hx y hy => ?_⟩
    have hy : y = l[m] := by simpa using hy
    subst hy
    have h3 := (h2 x).1 hx
    have h4 := hle x h3
    by_cases hm0 : m = 0
    ·subst hm0; simp at h3
    ·have hne : l[m] ≠ l[m - 1] := by
      unfold Lib.keeps at e
      have e := of_decide_eq_true e
      rcases e with e | e
      ·exact absurd e hm0
      ·have hd1 : l.toArray[m - 1]! = l[m - 1] := by simp [show m - 1 < l.length by omega]
       rwa [hd, hd1] at e
     have h5 : x ≤ l[m - 1] := by
      obtain ⟨i, hi, rfl⟩ := List.mem_iff_getElem.1 h3
      rw [List.length_take] at hi
      rw [List.getElem_take]
      by_cases e2 : i = m - 1
      ·subst e2; exact Int.le_refl _
      ·exact List.pairwise_iff_getElem.1 hs i (m - 1) (by omega) (by omega) (by omega)
     have h6 := List.pairwise_iff_getElem.1 hs (m - 1) m (by omega) hml (by omega)
     omega
 obtain ⟨h1, h2⟩ := key l.length (Nat.le_refl _)
 exact ⟨h1, fun x => by unfold Lib.compact; rw [h2, List.take_length]⟩
theorem sort_le (l : List Int) : (l.mergeSort (fun x y => decide (x ≤ y))).Pairwise (· ≤ ·) := by
 have := List.pairwise_mergeSort (le := fun (x y : Int) => decide (x ≤ y)) (fun a b c h1 h2 => by simp at *; omega) (fun a b => by simp; omega) l
 exact this.imp (fun h => by simpa using h)
set_option maxRecDepth 100000 in
set_option maxHeartbeats 2000000 in
theorem grow10_any (k : Nat) (w : World) (hk : k ≤ 1000000) :
 Calls Try.prog 119 #[.slice none 0 0, .int .i64 (k : Int)] w fun e w' => ∃ a' c', e = .returned (.slice a' 0 c') ∧ OwnKZ w' w.heap.size a' c' [] ∧ Below w.heap.size w w' := by
 by_cases h0 : k = 0
 ·subst h0
  go_enter Try.func119, Try.ntmps119
  go_wp2_with (fail)
  exact bodyPost_ret (v := .slice none 0 0) (by simp [results, Try.results119, go_sem]; try first | rfl | assumption | omega) rfl ⟨none, 0, rfl, World.ownsRow_nil _ _ _ 1, Below.refl _ w⟩
 ·obtain ⟨i0, hi, hz0, hz1, hz2⟩ := info_parts info_elI
  have hk1 : (0 : Int) < (k : Int) := by omega
  have hk2 : ¬ (k : Int) < 0 := by omega
  have hrun := Lib.run_append_nil_zeros (P := Try.prog) w 35 3 35 3 i0 _ .i64 .i64 Try.underlying35 Try.underlying3 hi hz0 k (by omega) (by rw [hz1]; decide) (by omega) (by rw [hz2]; omega)
  have hge := grownCap_ge w k 0 3
  have hle := grownCap_le_maxLen w k 0 3 (by unfold maxLen; omega)
  obtain ⟨cc, hcc⟩ : ∃ c, Hid (grownCap w k 0 3 = c) := ⟨_, Lib.hid rfl⟩
  rw [hcc.out] at hrun hge hle
  have hsz : (Builtin.zeroCells (Value.int .i64 0).cells k ++ Builtin.zeroCells (Value.int .i64 0).cells (cc - k)).size = cc := by
   simp [Builtin.zeroCells, Value.cells]
   omega
  obtain ⟨cs, hcs⟩ : ∃ c, Hid ((Builtin.zeroCells (Value.int .i64 0).cells k ++ Builtin.zeroCells (Value.int .i64 0).cells (cc - k)) = c) := ⟨_, Lib.hid rfl⟩
  rw [hcs.out] at hrun hsz
  have hO : OwnKZ (w.drew.alloc (.cells cs 3)) w.heap.size (some ⟨w.heap.size, 0, none⟩) cc [] := by
   refine ⟨rfl, .inr ⟨w.heap.size, cc, cs, rfl, Nat.le_refl _, World.alloc_heap_new w.drew _, Nat.zero_le _, hle, by rw [hsz]; omega, by simp⟩⟩
  have hB : Below w.heap.size w (w.drew.alloc (.cells cs 3)) := (Below.refl _ w).drew.alloc (Nat.le_refl _) _
  have Hrun := Lib.hid hrun
  have HO := Lib.hid hO
  have hcc2 : cc ≤ 9223372036854775807 := by unfold maxLen at hle; omega
  clear hrun hO
  go_enter Try.func119, Try.ntmps119
  go_wp2_with (at_builtin; refine wpList_append_run rfl _ _ 35 3 rfl _ _ _ _ rfl rfl Hrun.out ?_)
  exact bodyPost_ret (v := .slice (some ⟨w.heap.size, 0, none⟩) 0 cc) (by simp [results, Try.results119, go_sem]; try first | rfl | assumption | omega) rfl ⟨_, cc, rfl, HO.out, hB⟩
/-- Numbers of lists, one behind another. -/
def flatI (ds : List IltD) : List Int := (ds.map (fun d => d.l)).flatten
theorem flatI_snoc (ds : List IltD) (d : IltD) : flatI (ds ++ [d]) = flatI ds ++ d.l := by simp [flatI]
theorem flatI_take (ds : List IltD) (i : Nat) (h : i < ds.length) : flatI (ds.take (i + 1)) = flatI (ds.take i) ++ ds[i].l := by
 rw [List.take_add_one, List.getElem?_eq_getElem h]
 exact flatI_snoc _ _
theorem flatI_le (ds : List IltD) (i : Nat) : (flatI (ds.take i)).length ≤ (flatI ds).length := by
 have : flatI ds = flatI (ds.take i) ++ flatI (ds.drop i) := by
  unfold flatI
  rw [← List.flatten_append, ← List.map_append, List.take_append_drop]
 rw [this, List.length_append]
 omega
set_option maxRecDepth 100000 in
set_option maxHeartbeats 4000000 in
theorem concat10_any (ds : List IltD) (a : Option Addr) (cap : Nat) (w : World) (hl : AltsI w a cap ds) (hfew : (flatI ds).length ≤ 1000000) :
 Calls Try.prog 99 #[.slice a ds.length cap] w fun e w' => ∃ a' c', e = .returned (.slice a' (flatI ds).length c') ∧ OwnKZ w' w.heap.size a' c' (flatI ds) ∧ Below w.heap.size w w' := by
 have hlm : ds.length ≤ cap ∧ cap ≤ 9223372036854775807 := ⟨by have := hl.row.le; rwa [List.length_map] at this, hl.row.max⟩
 obtain ⟨L, HL⟩ : ∃ L, Hid (ds.length = L) := ⟨_, Lib.hid rfl⟩
 rw [HL.out] at hlm ⊢
 have HT : Hid (flatI (ds.take L) = flatI ds) := Lib.hid (by rw [List.take_of_length_le (by rw [HL.out]; exact Nat.le_refl _)])
 have Hfew := Lib.hid hfew
 have Hst : Hid (∀ i (h : i < ds.length), flatI (ds.take (i + 1)) = flatI (ds.take i) ++ ds[i].l) := Lib.hid (flatI_take ds)
 have Hle : Hid (∀ i, (flatI (ds.take i)).length ≤ 1000000) := Lib.hid (fun i => Nat.le_trans (flatI_le ds i) hfew)
 obtain ⟨Q, hQ⟩ : ∃ Q : Ending → World → Prop, Hid ((fun e w' => ∃ a' c', e = .returned (.slice a' (flatI ds).length c') ∧ OwnKZ w' w.heap.size a' c' (flatI ds) ∧ Below w.heap.size w w') = Q) := ⟨_, Lib.hid rfl⟩
 rw [hQ.out]
 have HQ := hQ
 clear hfew hQ
 go_enter Try.func99, Try.ntmps99
 go_wp2_with (fail)
 go_loopw [3, 11] (fun s iv wr => ∃ (i A : Nat), i ≤ L ∧ iv = .int .i64 (i : Int) ∧ s = .int .i64 (A : Int) ∧ Hid ((flatI (ds.take i)).length = A) ∧ wr = w) (fun _ iv _ => L - (RowKit.intOf iv).toNat)
 case atStart => exact ⟨0, 0, Nat.zero_le _, rfl, rfl, Lib.hid rfl, rfl⟩
 case round =>
  obtain ⟨i, A, hi, rfl, rfl, HA, hwr⟩ := hrel
  subst hwr
  by_cases hlt : i < L
  ·have hiI : (i : Int) < (L : Int) := by omega
   have hiI0 : (0 : Int) ≤ (i : Int) := by omega
   have hil : i < ds.length := by rw [HL.out]; exact hlt
   obtain ⟨b, off, rfl⟩ := hl.row.at_ i (by rw [List.length_map]; exact hil)
   have c0 := hl.row.cell b off rfl i (by rw [List.length_map]; exact hil)
   rw [List.getElem_map] at c0
   have hst := Hst.out i hil
   obtain ⟨d, hd⟩ : ∃ v, Hid (ds[i] = v) := ⟨_, Lib.hid rfl⟩
   rw [hd.out] at c0 hst
   have hbl := World.block_lt_of_cell? wr _ c0
   obtain ⟨D, hD⟩ : ∃ q, Hid (d.l.length = q) := ⟨_, Lib.hid rfl⟩
   change _ = some (Value.slice d.a d.l.length d.c) at c0
   rw [hD.out] at c0
   have hA2 : Hid ((flatI (ds.take (i + 1))).length = A + D) := Lib.hid (by rw [hst, List.length_append, HA.out, hD.out])
   have hB2 : A + D ≤ 1000000 := by have := Hle.out (i + 1); rw [hA2.out] at this; exact this
   clear hst
   have h1 : ¬ ((A : Int) + (D : Int) < 0) := by omega
   have h2 : (A : Int) + (D : Int) ≤ 1000000 := by omega
   have h3 : (0 : Int) ≤ (A : Int) + (D : Int) := by omega
   go_wp2_with (fail)
   exact ⟨⟨i + 1, A + D, by omega, by go_num, by go_num, hA2, by first | rfl | trivial⟩, by simp [RowKit.intOf]; omega⟩
  ·obtain rfl : i = L := by omega
   have hiI : ¬ (i : Int) < (i : Int) := by omega
   have hA1 : A ≤ 1000000 := by have := Hle.out i; rw [HA.out] at this; exact this
   have Hg := Lib.hid (grow10_any A wr hA1)
   go_wp2_with (fail)
   refine Hg.out.mono ?_
   clear Hg
   rintro r w1 ⟨a1, c1, rfl, ho1, hb1⟩
   have HO1 := Lib.hid ho1
   clear ho1
   go_wp2_with (fail)
   obtain ⟨B, hB⟩ : ∃ B, Hid (wr.heap.size = B) := ⟨_, Lib.hid rfl⟩
   obtain ⟨V1, rfl⟩ : ∃ V1, V1 = wr := ⟨_, rfl⟩
   go_loopw [6, 27] (fun s iv wv => ∃ (j n : Nat) (a' : Option Addr) (c' : Nat), j ≤ i ∧ iv = .int .i64 (j : Int) ∧ s = .slice a' n c' ∧ Hid ((flatI (ds.take j)).length = n) ∧ Hid (OwnKZ wv B a' c' (flatI (ds.take j))) ∧ Below B V1 wv) (fun _ iv _ => i - (RowKit.intOf iv).toNat)
   case atStart => exact ⟨0, 0, a1, c1, Nat.zero_le _, rfl, rfl, Lib.hid rfl, Lib.hid (by rw [← hB.out]; exact HO1.out), by rw [← hB.out]; exact hb1⟩
   case round =>
    obtain ⟨j, n, a', c', hj, rfl, rfl, Hn, HO, hbr⟩ := hrel
    by_cases hltj : j < i
    ·have hjI : (j : Int) < (i : Int) := by omega
     have hjI0 : (0 : Int) ≤ (j : Int) := by omega
     have hjl : j < ds.length := by rw [HL.out]; exact hltj
     have hbr2 := hbr
     rw [← hB.out] at hbr2
     obtain ⟨b, off, rfl⟩ := hl.row.at_ j (by rw [List.length_map]; exact hjl)
     have c0 := (hl.row.grown hbr2).cell b off rfl j (by rw [List.length_map]; exact hjl)
     rw [List.getElem_map] at c0
     have Hst2 := Lib.hid (Hst.out j hjl)
     have hmd : ds[j] ∈ ds := List.getElem_mem hjl
     obtain ⟨d, hd⟩ : ∃ v, Hid (ds[j] = v) := ⟨_, Lib.hid rfl⟩
     rw [hd.out] at c0 Hst2 hmd
     have hbl := World.block_lt_of_cell? _ _ c0
     have hNd := (hl.nms d hmd).grown hbr2
     have hle2 := Hle.out (j + 1)
     rw [Hst2.out, List.length_append] at hle2
     obtain ⟨a2, c2, w2, hrun, ho, hb2⟩ := OwnKZ.app HO.out d.a d.c d.l hNd 35 (by omega) (by rw [← hB.out]; exact hbr2.size)
     have Hn2 : Hid ((flatI (ds.take (j + 1))).length = n + d.l.length) := Lib.hid (by rw [Hst2.out, List.length_append, Hn.out])
     obtain ⟨D, hD⟩ : ∃ q, Hid (d.l.length = q) := ⟨_, Lib.hid rfl⟩
     change _ = some (Value.slice d.a d.l.length d.c) at c0
     rw [hD.out] at c0 hrun Hn2
     rw [Hn.out] at hrun
     have Hrun := Lib.hid hrun
     have HO2 : Hid (OwnKZ w2 B a2 c2 (flatI (ds.take (j + 1)))) := Lib.hid (by rw [Hst2.out]; exact ho)
     have hb3 := hbr.trans hb2
     clear hrun ho hb2 hle2 hNd
     go_wp2_with (at_builtin; refine wpList_append_run rfl _ _ 35 35 rfl _ _ _ _ rfl rfl Hrun.out ?_)
     exact ⟨⟨j + 1, n + D, a2, c2, by omega, by go_num, rfl, Hn2, HO2, hb3⟩, by simp [RowKit.intOf]; omega⟩
    ·obtain rfl : j = i := by omega
     have hjI : ¬ (j : Int) < (j : Int) := by omega
     have Hfin : Hid (Q (.returned (.slice a' n c')) wr) := Lib.hid (by
      rw [← HQ.out]
      rw [HT.out] at Hn HO
      have h2 := HO.out
      rw [← hB.out] at h2
      exact ⟨a', c', by rw [Hn.out], h2, by rw [hB.out]; exact hbr⟩)
     go_wp2_with (fail)
     first | exact Hfin.out | exact bodyPost_ret (v := .slice a' n c') (by simp [results, Try.results99, go_sem]; try first | rfl | assumption | omega) rfl Hfin.out
end Go.Proofs.Ytldmgifphkpdlaa
