/- Texts joined: Jr Js Jt Wc Wd Wh Wm Wn Wq Wr. -/
import Derived.Test.YtldmgifphkpdlaaRVAp
import Derived.Test.YtldmgifphkpdlaaRVAn
import Derived.Test.YtldmgifphkpdlaaRVAg
set_option linter.unusedVariables false
set_option linter.unusedSimpArgs false
namespace Go.Proofs.Ytldmgifphkpdlaa
open Go.RowKit Go.Maps
attribute [local go_sem] Oper.semAt_some
/-- One step up. -/
def StL (ML : Nat → Int → Bool) (N : Nat) (x y : Int) : Prop := ∃ r : Nat, x = (r : Int) ∧ r < N ∧ ML r y = true
theorem pair_nodup {l : List Int} (h : l.Pairwise (· < ·)) : l.Nodup := h.imp (fun h => by omega)
theorem ris_len {l : List Int} {P : Int → Prop} (h : Ris l P) (U : List Int) (hU : ∀ x, P x → x ∈ U) : l.length ≤ U.length := nodupLe l U (pair_nodup h.up) (fun x hx => hU x ((h.mem x).1 hx))
theorem rng_few {W : World} {b r n cnt : Nat} {M left : Int → Bool} (h : RngZ W b r n M left cnt) (U : List Int) (hU : ∀ x, M x = true → x ∈ U) : cnt ≤ U.length := by
 obtain ⟨D, lf, h1, h2, h3, _⟩ := h
 obtain ⟨hk1, hk2⟩ := set_keys h1.owns
 have hl : (Go.intKeys D).length ≤ U.length := nodupLe _ U hk1 (fun x hx => hU x (by rw [← h3]; exact (hk2 x).1 hx))
 obtain ⟨es, clock, since, seen, c0, q1, q2, q3, q4, q5, q6, q7, _⟩ := h1
 have h4 : (leftOf es seen).size ≤ es.size := by unfold leftOf; exact Array.size_filter_le
 have h5 : (Go.intKeys D).length = es.size := by
  rw [q4]
  unfold Go.intKeys
  rw [List.length_map, Go.length_sorted, List.length_map, Array.length_toList]
 omega
set_option maxRecDepth 100000 in
set_option maxHeartbeats 16000000 in
theorem up_any (W0 W : World) (lb5 hb lb N n m : Nat) (ba : Option Addr) (bc : Nat) (la : Option Addr) (lc : Nat) (p q : Nat → Nat) (MB ML : Nat → Int → Bool) (B : Nat) (oa : Option Addr) (oc : Nat) (F O : List Int) (r : Nat)
 (hB : Blk W0 lb5 75 [.slice la N lc]) (hN : NbAt W0 B hb lb N m ba bc la lc p q MB ML) (hm : m ≤ 1000000000) (hML : ∀ r y, ML r y = true → 0 ≤ y ∧ y < (N : Int)) (hN60 : N ≤ 60) (hb : Below W0.heap.size W0 W) (hr : r < N)
 (hR : RchAtZ W W0.heap.size (W0.heap.size + 1 + 1) (W0.heap.size + 1) W0.heap.size n oa oc F O) (hO : O.length ≤ 400000) (hn : n ≤ 1000000000000) :
 Calls Try.prog 62 #[.int .i64 (r : Int), addVZ (W0.heap.size + 1) (W0.heap.size + 1 + 1), .pointer (some ⟨lb5, 0, none⟩)] W (NextQZ W W0.heap.size (W0.heap.size + 1 + 1) (W0.heap.size + 1) W0.heap.size n F O (StL ML N) (r : Int)) := by
 have hNw := hN.below hb
 have hBw := hB.below hb hB.lt
 obtain ⟨g1, hg1, hc1⟩ := row_at hNw.r2 hr
 have hc1l := World.block_lt_of_cell? _ _ hc1
 have hle := row_le hNw.r2
 have Ho := Lib.hid (ordered_any (q r) m (ML r) W (hNw.s2 r hr) (by omega))
 have x0 := hBw.cell 0
 have xl := hBw.lt
 simp only [List.getElem?_cons_zero] at x0
 have hrI : (r : Int) < (N : Int) := by omega
 have hrI0 : (0 : Int) ≤ (r : Int) := by omega
 have HR := Lib.hid hR
 have hbW := hb.size
 have Hst : Hid (∀ y, ML r y = true ↔ StL ML N (r : Int) y) := Lib.hid (fun y => ⟨fun h => ⟨r, rfl, hr, h⟩, fun ⟨s, e, _, h⟩ => by
  have e2 : r = s := by omega
  rw [e2]; exact h⟩)
 have HMLr : Hid (∀ y, ML r y = true → 0 ≤ y ∧ y < (N : Int)) := Lib.hid (hML r)
 obtain ⟨Q, hQ⟩ : ∃ Q, Hid (NextQZ W W0.heap.size (W0.heap.size + 1 + 1) (W0.heap.size + 1) W0.heap.size n F O (StL ML N) (r : Int) = Q) := ⟨_, Lib.hid rfl⟩
 rw [hQ.out]
 have HQ := Lib.hid hQ.out
 obtain ⟨qr, hqr⟩ : ∃ x, Hid (q r = x) := ⟨_, Lib.hid rfl⟩
 rw [hqr.out] at hc1 Ho
 obtain ⟨base, hbase⟩ : ∃ q, Hid (W0.heap.size = q) := ⟨_, Lib.hid rfl⟩
 rw [hbase.out] at HR HQ hbW ⊢
 subst hg1
 clear hNw hBw hR hB hN hb hML hQ
 go_enter Try.func62, Try.ntmps62
 go_wp2_with (fail)
 refine Ho.out.mono ?_
 rintro e w2 ⟨ra, rc, l, rfl, hr2, ho2, hb2⟩
 have HR2 := Lib.hid (HR.out.below hb2)
 have Hb2 : Hid (Below base W w2) := Lib.hid (hb2.mono hbW)
 have hll := ris_len hr2 ((List.range N).map (fun i : Nat => (i : Int))) (fun x hx => by
  have := HMLr.out x hx
  exact List.mem_map.2 ⟨x.toNat, List.mem_range.2 (by omega), by omega⟩)
 rw [List.length_map, List.length_range] at hll
 have hap : ApLZ w2 ra (base + 1 + 1) base oa O.length oc := fun g off e => by
  subst e
  obtain ⟨h1, h2⟩ := World.ownsRow.lt ho2 g rfl
  have h3 := HR.out.obx.lt
  have h4 := HR.out.set.lt
  refine ⟨by omega, by omega, h2, fun e3 => ?_⟩
  have := (World.ownsRow.lt HR.out.own g e3).2
  omega
 have Hc := Lib.hid (addR_anyZ w2 base (base + 1 + 1) (base + 1) base n oa oc F O l ra rc HR2.out ho2.vs hap (fun x hx => wf9 (by have := HMLr.out x ((hr2.mem x).1 hx); omega)) (by omega) (by omega) (Nat.le_trans hbW hb2.size))
 have HL : Hid (∀ y, y ∈ l ↔ StL ML N (r : Int) y) := Lib.hid (fun y => (hr2.mem y).trans (Hst.out y))
 obtain ⟨LL, hLL⟩ : ∃ q, Hid (l.length = q) := ⟨_, Lib.hid rfl⟩
 have hll2 : LL ≤ 60 := by rw [← hLL.out]; omega
 rw [hLL.out] at Hc ⊢
 clear hr2 ho2 hb2 hap hll x0 xl hc1 hc1l
 go_wp2_with (fail)
 refine Hc.out.mono ?_
 rintro e w5 ⟨rfl, n5, a5, c5, hn5, hR5, hb5⟩
 have Hfin : Hid (Q (.returned (.tuple #[])) w5) := Lib.hid (by
  rw [← HQ.out]
  exact ⟨rfl, l, n5, a5, c5, HL.out, by rw [hLL.out] at hn5; omega, hR5, Hb2.out.trans hb5⟩)
 clear hR5 hb5 hn5
 go_wp2_with (fail)
 first | exact Hfin.out | exact bodyPost_end (v := .tuple #[]) (by simp [results, Try.results62, go_sem]; try rfl) rfl Hfin.out
end Go.Proofs.Ytldmgifphkpdlaa
namespace Go.Proofs.Ytldmgifphkpdlaa
open Go.RowKit Go.Maps
attribute [local go_sem] Oper.semAt_some
/-- What is behind some rules that have come. -/
noncomputable def nxB (MM left : Int → Bool) (MB : Nat → Int → Bool) (z : Int) : Bool := by
 classical exact decide (∃ o : Nat, MM (o : Int) = true ∧ left (o : Int) = false ∧ MB o z = true)
theorem nxB_iff {MM left : Int → Bool} {MB : Nat → Int → Bool} {z : Int} : nxB MM left MB z = true ↔ ∃ o : Nat, MM (o : Int) = true ∧ left (o : Int) = false ∧ MB o z = true := by unfold nxB; simp
theorem nxB_start (MM : Int → Bool) (MB : Nat → Int → Bool) (z : Int) : nxB MM MM MB z = false := by
 cases e : nxB MM MM MB z
 ·rfl
 ·obtain ⟨o, h1, h2, _⟩ := nxB_iff.1 e
  rw [h1] at h2
  cases h2
theorem nxB_step {MM left : Int → Bool} {MB : Nat → Int → Bool} {r : Nat} (hM : MM (r : Int) = true) (z : Int) : nxB MM (fun y => left y && !decide (y = (r : Int))) MB z = (nxB MM left MB z || MB r z) := by
 rw [Bool.eq_iff_iff, Bool.or_eq_true, nxB_iff, nxB_iff]
 constructor
 ·rintro ⟨o, h1, h2, h3⟩
  by_cases e : o = r
  ·subst e; exact .inr h3
  ·have : ¬ (o : Int) = (r : Int) := by omega
   simp [this] at h2
   exact .inl ⟨o, h1, h2, h3⟩
 ·rintro (⟨o, h1, h2, h3⟩ | h)
  ·exact ⟨o, h1, by simp [h2], h3⟩
  ·exact ⟨r, hM, by simp, h⟩
/-- What lies behind, and the end behind the first. -/
def mbE (MB : Nat → Int → Bool) (T : Nat) (s : Nat) (y : Int) : Bool := MB s y || (decide (s = 0) && decide (y = (T : Int)))
theorem mb_beh {al : List (List (List Int))} {f : Nat → Bool} {T s : Nat} {y : Int} : mbE (mbO f (occG al al.length)) T s y = true ↔ BehP al f T s y := by
 unfold mbE mbO BehP
 rw [Bool.or_eq_true, List.any_eq_true, Bool.and_eq_true, decide_eq_true_eq, decide_eq_true_eq]
 constructor
 ·rintro (⟨o, ho, h⟩ | h)
  ·obtain ⟨r, hr, a, ha, u, x, hu, hx, rfl⟩ := occG_mem.1 ho
   rw [Bool.and_eq_true, decide_eq_true_eq, decide_eq_true_eq] at h
   exact .inr ⟨r, hr, a, ha, u, by rw [h.1]; dsimp only; rw [of_ruL hx]; exact hu, h.2⟩
  ·exact .inl h
 ·rintro (h | ⟨r, hr, a, ha, u, hu, hy⟩)
  ·exact .inr h
  ·refine .inl ⟨_, occG_mem.2 ⟨r, hr, a, ha, u, _, hu, by omega, rfl⟩, ?_⟩
   rw [Bool.and_eq_true, decide_eq_true_eq, decide_eq_true_eq]
   exact ⟨(ruL_of s).symm, hy⟩
theorem ml_last {al : List (List (List Int))} {f : Nat → Bool} {s : Nat} {y : Int} : mlO f (occG al al.length) s y = true ↔ ∃ r : Nat, y = (r : Int) ∧ LstP al f s r := by
 unfold mlO LstP
 rw [List.any_eq_true]
 constructor
 ·rintro ⟨o, ho, h⟩
  obtain ⟨r, hr, a, ha, u, x, hu, hx, rfl⟩ := occG_mem.1 ho
  rw [Bool.and_eq_true, Bool.and_eq_true, decide_eq_true_eq, decide_eq_true_eq] at h
  exact ⟨r, h.2.2, hr, a, ha, u, by rw [h.1]; dsimp only; rw [of_ruL hx]; exact hu, h.2.1⟩
 ·rintro ⟨r, rfl, hr, a, ha, u, hu, he⟩
  refine ⟨_, occG_mem.2 ⟨r, hr, a, ha, u, _, hu, by omega, rfl⟩, ?_⟩
  rw [Bool.and_eq_true, Bool.and_eq_true, decide_eq_true_eq, decide_eq_true_eq]
  exact ⟨(ruL_of s).symm, he, rfl⟩
/-- What is reached upwards, as numbers. -/
theorem up_rchd {al : List (List (List Int))} {f : Nat → Bool} {r : Nat} (hr : r < al.length) (x : Int) : Rchd [(r : Int)] (StL (mlO f (occG al al.length)) al.length) x ↔ ∃ o : Nat, x = (o : Int) ∧ o < al.length ∧ Rchd [r] (LstP al f) o := by
 constructor
 ·intro h
  induction h with
  | base h => rw [List.mem_singleton] at h; exact ⟨r, h, hr, .base (by simp)⟩
  | step _ h2 ih =>
   obtain ⟨s, rfl, hs, h3⟩ := h2
   obtain ⟨o, ho, hol, h4⟩ := ih
   obtain ⟨t, rfl, h5⟩ := ml_last.1 h3
   have : s = o := by omega
   subst this
   exact ⟨t, rfl, h5.1, h4.step h5⟩
 ·rintro ⟨o, rfl, ho, h⟩
  clear ho
  have key : Rchd [(r : Int)] (StL (mlO f (occG al al.length)) al.length) (o : Int) ∧ o < al.length := by
   induction h with
   | base h => rw [List.mem_singleton] at h; subst h; exact ⟨.base (by simp), hr⟩
   | step _ h2 ih => exact ⟨ih.1.step ⟨_, rfl, ih.2, ml_last.2 ⟨_, rfl, h2⟩⟩, h2.1⟩
  exact key.1
/-- What follows, by what is put together. -/
theorem fol_of {al : List (List (List Int))} {f : Nat → Bool} {T r : Nat} (hr : r < al.length) {l : List Int} {MM : Int → Bool} (hM : ∀ x, MM x = true ↔ Rchd [(r : Int)] (StL (mlO f (occG al al.length)) al.length) x) (hl : ∀ y, y ∈ l ↔ nxB MM (fun _ => false) (mbE (mbO f (occG al al.length)) T) y = true) (t : Int) : TokP al f l t ↔ FolP al f T r t := by
 rw [tok_iff]
 unfold FolP
 constructor
 ·rintro ⟨x, hx, ht⟩
  obtain ⟨o, h1, _, h3⟩ := nxB_iff.1 ((hl x).1 hx)
  obtain ⟨o', e, _, h4⟩ := (up_rchd hr _).1 ((hM _).1 h1)
  have : o = o' := by omega
  subst this
  exact ⟨ht.1, o, h4, x, mb_beh.1 h3, ht⟩
 ·rintro ⟨h0, o, ho, y, hb, ht⟩
  have hol : o < al.length := by
   cases ho with
   | base h => rw [List.mem_singleton] at h; omega
   | step _ h => exact h.1
  exact ⟨y, (hl y).2 (nxB_iff.2 ⟨o, (hM _).2 ((up_rchd hr _).2 ⟨o, rfl, hol, ho⟩), rfl, mb_beh.2 hb⟩), ht⟩
end Go.Proofs.Ytldmgifphkpdlaa
namespace Go.Proofs.Ytldmgifphkpdlaa
open Go.RowKit Go.Maps
attribute [local go_sem] Oper.semAt_some
end Go.Proofs.Ytldmgifphkpdlaa
namespace Go.Proofs.Ytldmgifphkpdlaa
open Go.RowKit Go.Maps
attribute [local go_sem] Oper.semAt_some
/-- What is made one behind the other. -/
def allocs (w : World) : List Obj → World
 | [] => w
 | o :: os => allocs (w.alloc o) os
theorem allocs_below : ∀ (os : List Obj) (w : World), Below w.heap.size w (allocs w os)
 | [], w => Below.refl _ w
 | o :: os, w => (up1 w o).trans ((allocs_below os (w.alloc o)).mono (by simp))
theorem allocs_at : ∀ (os : List Obj) (w : World) (i : Nat) (o : Obj), os[i]? = some o → (allocs w os).heap[w.heap.size + i]? = some o
 | [], w, i, o, h => by cases h
 | p :: os, w, 0, o, h => by
  have e : p = o := by simpa using h
  subst e
  have := (allocs_below os (w.alloc p)).block w.heap.size (by simp)
  rw [Nat.add_zero]
  show (allocs (w.alloc p) os).heap[w.heap.size]? = some p
  rw [this]
  exact World.alloc_heap_new w p
 | p :: os, w, i + 1, o, h => by
  have := allocs_at os (w.alloc p) i o (by simpa using h)
  rw [show (w.alloc p).heap.size + i = w.heap.size + (i + 1) by simp; omega] at this
  exact this
theorem allocs_blk (os : List Obj) (w : World) (i : Nat) (xs : List Value) (e : TypeId) (h : os[i]? = some (.cells xs.toArray e)) : Blk (allocs w os) (w.heap.size + i) e xs := allocs_at os w i _ h
theorem allocs_vs (os : List Obj) (w : World) (i : Nat) (xs : List Value) (e : TypeId) (h : os[i]? = some (.cells xs.toArray e)) (n : Nat) (hn : xs.length = n) (hm : n ≤ maxLen) : Vs (allocs w os) (some ⟨w.heap.size + i, 0, none⟩) n xs := own_vals (e := e) (base := 0) ⟨by rw [hn, Nat.mul_one], .inr ⟨w.heap.size + i, n, xs.toArray, rfl, Nat.zero_le _, allocs_blk os w i xs e h, Nat.le_refl _, hm, by simp [hn], by rw [List.take_of_length_le (by simp [hn])]⟩⟩ hn.symm
theorem e9_mx (n : Nat) (h : n ≤ 10) : n ≤ maxLen := by unfold maxLen; omega
theorem lit_L1 (W : World) (x : List Int) (n : Nat) (hx : x.length = n) (hn : n ≤ 10) : AltsI (allocs W [.cells (x.map (Value.int .i64)).toArray 3, .cells #[.slice (some ⟨W.heap.size, 0, none⟩) n n] 35]) (some ⟨W.heap.size + 1, 0, none⟩) 1 [⟨x, some ⟨W.heap.size, 0, none⟩, n⟩] := by
 subst hx
 refine ⟨allocs_vs _ W 1 _ _ rfl 1 rfl (e9_mx 1 (by omega)), fun d hd => ?_⟩
 rw [List.mem_singleton] at hd
 subst hd
 exact allocs_vs _ W 0 _ _ rfl x.length (by simp) (e9_mx _ hn)
theorem lit_I (W : World) (x : List Int) (n : Nat) (hx : x.length = n) (hn : n ≤ 10) : Ints (W.alloc (.cells (x.map (Value.int .i64)).toArray 3)) (some ⟨W.heap.size, 0, none⟩) n x := by
 subst hx
 exact allocs_vs [.cells (x.map (Value.int .i64)).toArray 3] W 0 _ _ rfl x.length (by simp) (e9_mx _ hn)
end Go.Proofs.Ytldmgifphkpdlaa
namespace Go.Proofs.Ytldmgifphkpdlaa
open Go.RowKit Go.Maps
attribute [local go_sem] Oper.semAt_some
end Go.Proofs.Ytldmgifphkpdlaa
namespace Go.Proofs.Ytldmgifphkpdlaa
open Go.RowKit Go.Maps
attribute [local go_sem] Oper.semAt_some
theorem take_stepZ {l : List Int} {k : Nat} (h : k < l.length) (p : Int → Bool) : (l.take (k + 1)).filter p = (l.take k).filter p ++ (if p l[k] then [l[k]] else []) := by
 rw [List.take_add_one, List.getElem?_eq_getElem h, List.filter_append]
 congr 1
 by_cases hp : p l[k] <;> simp [hp]
/-- A number put into a rising list. -/
def withZ (l : List Int) (n : Int) : List Int := if n ∈ l then l else l.filter (fun a => decide (a < n)) ++ [n] ++ l.filter (fun a => decide (n < a))
theorem withZ_mem {l : List Int} {n x : Int} : x ∈ withZ l n ↔ x ∈ l ∨ x = n := by
 unfold withZ
 split
 ·next h => exact ⟨.inl, fun h1 => h1.elim id (fun e => e ▸ h)⟩
 ·next h =>
  simp only [List.mem_append, List.mem_filter, List.mem_singleton, decide_eq_true_eq]
  constructor
  ·rintro ((⟨h1, _⟩ | h1) | ⟨h1, _⟩)
   ·exact .inl h1
   ·exact .inr h1
   ·exact .inl h1
  ·rintro (h1 | h1)
   ·by_cases h2 : x < n
    ·exact .inl (.inl ⟨h1, h2⟩)
    ·exact .inr ⟨h1, by have : x ≠ n := fun e => h (e ▸ h1); omega⟩
   ·exact .inl (.inr h1)
theorem withZ_up {l : List Int} {n : Int} (h : l.Pairwise (· < ·)) : (withZ l n).Pairwise (· < ·) := by
 unfold withZ
 split
 ·exact h
 ·rw [List.pairwise_append, List.pairwise_append]
  refine ⟨⟨h.filter _, by simp, fun a ha b hb => ?_⟩, h.filter _, fun a ha b hb => ?_⟩
  ·rw [List.mem_filter, decide_eq_true_eq] at ha
   rw [List.mem_singleton] at hb
   omega
  ·rw [List.mem_filter, decide_eq_true_eq] at hb
   rcases List.mem_append.1 ha with ha | ha
   ·rw [List.mem_filter, decide_eq_true_eq] at ha
    omega
   ·rw [List.mem_singleton] at ha
    omega
theorem Ris.with_ {l : List Int} {P : Int → Prop} (h : Ris l P) (n : Int) : Ris (withZ l n) (fun x => P x ∨ x = n) := ⟨withZ_up h.up, fun x => withZ_mem.trans (or_congr (h.mem x) Iff.rfl)⟩
/-- A slice lies in no block ahead of one. -/
def FrB (X : Nat) (a : Option Addr) : Prop := ∀ b off, a = some ⟨b, off, none⟩ → X ≤ b
set_option maxRecDepth 100000 in
set_option maxHeartbeats 16000000 in
theorem in9_any (l : List Int) (a : Option Addr) (cap : Nat) (v : Int) (w : World) (hl : Ints w a cap l) :
 Calls Try.prog 39 #[.slice a l.length cap, .int .i64 v] w fun e w' => e = .returned (.bool (decide (v ∈ l))) ∧ w' = w := by
 have hlm : l.length ≤ cap ∧ cap ≤ 9223372036854775807 := ⟨by have := hl.le; rw [List.length_map] at this; exact this, hl.max⟩
 obtain ⟨L, HL⟩ : ∃ L, Hid (l.length = L) := ⟨_, Lib.hid rfl⟩
 rw [HL.out] at hlm ⊢
 obtain ⟨B, HB⟩ : ∃ B, Hid (decide (v ∈ l) = B) := ⟨_, Lib.hid rfl⟩
 rw [HB.out]
 go_enter Try.func39, Try.ntmps39
 go_wp2_with (fail)
 go_loopw [6, 9] (fun _ i wr => ∃ (k : Nat), k ≤ L ∧ i = .int .i64 k ∧ Hid (B = decide (v ∈ l.drop k)) ∧ wr = w) (fun _ i _ => L - (RowKit.intOf i).toNat)
 case atStart => exact ⟨0, by omega, rfl, Lib.hid HB.out.symm, rfl⟩
 case round =>
  obtain ⟨k, hk, rfl, HR, hwr⟩ := hrel
  subst hwr
  by_cases hlt : k < L
  ·have hkI : (k : Int) < (L : Int) := by omega
   have hkI0 : (0 : Int) ≤ (k : Int) := by omega
   have hkl : k < l.length := by rw [HL.out]; exact hlt
   obtain ⟨b, off, rfl⟩ := hl.at_ k (by rw [List.length_map]; exact hkl)
   have c0 := hl.cell b off rfl k (by rw [List.length_map]; exact hkl)
   rw [List.getElem_map] at c0
   have hbl := World.block_lt_of_cell? _ _ c0
   have hdr : Hid (l.drop k = l[k] :: l.drop (k + 1)) := Lib.hid (List.drop_eq_getElem_cons hkl)
   obtain ⟨u, hu⟩ : ∃ u, Hid (l[k] = u) := ⟨_, Lib.hid rfl⟩
   rw [hu.out] at c0 hdr
   by_cases he : u = v
   ·have HT : Hid (B = true) := Lib.hid (by rw [HR.out, hdr.out, he]; simp)
    subst he
    go_wp2_with (fail)
    exact bodyPost_ret (v := .bool true) (by simp [results, Try.results39, go_sem]; try first | rfl | assumption | omega) rfl ⟨by rw [HT.out], rfl⟩
   ·have heI : (u == v) = false := by rw [beq_eq_false_iff_ne]; exact he
    have HN : Hid (B = decide (v ∈ l.drop (k + 1))) := Lib.hid (by
     rw [HR.out, hdr.out]
     simp [Ne.symm he])
    go_wp2_with (fail)
    exact ⟨⟨k + 1, by omega, by go_num, HN, by first | rfl | trivial⟩, by simp [RowKit.intOf]; omega⟩
  ·have hke : k = L := by omega
   have hkI : ¬ (k : Int) < (L : Int) := by omega
   have HK : Hid (B = false) := Lib.hid (by rw [HR.out, List.drop_eq_nil_of_le (by rw [HL.out]; omega)]; simp)
   clear hke
   go_wp2_with (fail)
   exact bodyPost_ret (v := .bool false) (by simp [results, Try.results39, go_sem]; try first | rfl | assumption | omega) rfl ⟨by rw [HK.out], rfl⟩
set_option maxRecDepth 100000 in
set_option maxHeartbeats 16000000 in
theorem with9_any (l : List Int) (x : Int) (a : Option Addr) (cap : Nat) (w : World) (hl : Ints w a cap l) (hll : l.length ≤ 100000000) :
 Calls Try.prog 75 #[.slice a l.length cap, .int .i64 x] w fun e w' => (∃ oa oc, e = .returned (.slice oa (withZ l x).length oc) ∧ Ints w' oa oc (withZ l x) ∧ (oa = a ∨ FrB w.heap.size oa)) ∧ Below w.heap.size w w' := by
 have hlm : l.length ≤ cap ∧ cap ≤ 9223372036854775807 := ⟨by have := hl.le; rw [List.length_map] at this; exact this, hl.max⟩
 have HI := Lib.hid (in9_any l a cap x w hl)
 obtain ⟨L, HL⟩ : ∃ L, Hid (l.length = L) := ⟨_, Lib.hid rfl⟩
 obtain ⟨B, hB⟩ : ∃ B, Hid (decide (x ∈ l) = B) := ⟨_, Lib.hid rfl⟩
 rw [hB.out, HL.out] at HI
 rw [HL.out] at hlm hll ⊢
 have Hl := Lib.hid hl
 clear hl
 go_enter Try.func75, Try.ntmps75
 go_wp2_with (fail)
 refine HI.out.mono ?_
 rintro e w1 ⟨rfl, rfl⟩
 cases B
 case true =>
  have HW : Hid (withZ l x = l) := Lib.hid (by rw [withZ, if_pos (of_decide_eq_true hB.out)])
  have HF : Hid ((∃ oa oc, Ending.returned (.slice a L cap) = .returned (.slice oa (withZ l x).length oc) ∧ Ints w1 oa oc (withZ l x) ∧ (oa = a ∨ FrB w1.heap.size oa)) ∧ Below w1.heap.size w1 w1) := Lib.hid ⟨⟨a, cap, by rw [HW.out, HL.out], by rw [HW.out]; exact Hl.out, .inl rfl⟩, Below.refl _ _⟩
  go_wp2_with (fail)
  exact bodyPost_ret (v := .slice a L cap) (by simp [results, Try.results75, go_sem]; try first | rfl | assumption | omega) rfl HF.out
 have HW : Hid (withZ l x = l.filter (fun a => decide (a < x)) ++ [x] ++ l.filter (fun a => decide (x < a))) := Lib.hid (by rw [withZ, if_neg (of_decide_eq_false hB.out)])
 go_wp2_with (fail)
 go_loopw [5, 16] (fun ov iv wr => ∃ (k n : Nat) (ra : Option Addr) (rc : Nat) (r : List Int), k ≤ L ∧ iv = .int .i64 (k : Int) ∧ ov = .slice ra n rc ∧ Hid (n = r.length) ∧ Hid (OwnKZ wr w1.heap.size ra rc r) ∧ Hid (r = (l.take k).filter (fun a => decide (a < x))) ∧ r.length ≤ k ∧ Below w1.heap.size w1 wr) (fun _ iv _ => L - (RowKit.intOf iv).toNat)
 case atStart => exact ⟨0, 0, none, 0, [], Nat.zero_le _, rfl, rfl, Lib.hid rfl, Lib.hid (OwnKZ.nil _ _), Lib.hid rfl, Nat.le_refl _, Below.refl _ _⟩
 case round =>
  obtain ⟨k, n, ra, rc, r, hk, rfl, rfl, hn, HO, Hr, hrl, hbr⟩ := hrel
  obtain ⟨U, rfl⟩ : ∃ U, U = wr := ⟨_, rfl⟩
  by_cases hlt : k < L
  ·have hkI : (k : Int) < (L : Int) := by omega
   have hkI0 : (0 : Int) ≤ (k : Int) := by omega
   have hkl : k < l.length := by rw [HL.out]; exact hlt
   have hrow := Hl.out.grown hbr
   have Hts := Lib.hid (take_stepZ hkl (fun a => decide (a < x)))
   obtain ⟨b, off, hb⟩ := hrow.at_ k (by rw [List.length_map]; exact hkl)
   have c0 := hrow.cell b off hb k (by rw [List.length_map]; exact hkl)
   rw [List.getElem_map] at c0
   subst hb
   obtain ⟨v, hv⟩ : ∃ v, Hid (l[k] = v) := ⟨_, Lib.hid rfl⟩
   rw [hv.out] at c0 Hts
   have hbl := World.block_lt_of_cell? _ _ c0
   clear hrow
   by_cases hlv : v < x
   ·obtain ⟨ra', rc', w', hr6, ho6, hg6, hlies⟩ := OwnKZ.push HO.out v 35 (by omega) hbr.size
    rw [← hn.out] at hr6
    have Hr6 := Lib.hid hr6
    have HO6 := Lib.hid ho6
    have hn6 : Hid (n + 1 = (r ++ [v]).length) := Lib.hid (by rw [List.length_append, ← hn.out]; rfl)
    have Hr7 : Hid (r ++ [v] = (l.take (k + 1)).filter (fun a => decide (a < x))) := Lib.hid (by rw [Hts.out, Hr.out, if_pos (decide_eq_true hlv)])
    have Hb6 := Lib.hid (hbr.trans (belowAt hg6 (B := w1.heap.size) (fun i e => (own_typ HO.out i e).1) hbr.size))
    clear hr6 ho6 hg6 hlies hbr HO Hr
    go_wp2_with (at_builtin; refine wpList_append_run rfl _ _ 35 35 rfl _ _ _ _ rfl rfl Hr6.out ?_)
    exact ⟨⟨k + 1, n + 1, ra', rc', r ++ [v], by omega, by go_num, rfl, hn6, HO6, Hr7, by rw [List.length_append, List.length_singleton]; omega, Hb6.out⟩, by simp [RowKit.intOf]; omega⟩
   ·have Hr7 : Hid (r = (l.take (k + 1)).filter (fun a => decide (a < x))) := Lib.hid (by rw [Hts.out, if_neg (by simpa using hlv), List.append_nil]; exact Hr.out)
    clear Hr
    go_wp2_with (fail)
    exact ⟨⟨k + 1, n, ra, rc, r, by omega, by go_num, rfl, hn, HO, Hr7, by omega, hbr⟩, by simp [RowKit.intOf]; omega⟩
  ·have hke : k = L := by omega
   have hkI : ¬ (k : Int) < (L : Int) := by omega
   rw [hke] at Hr
   rw [List.take_of_length_le (by rw [HL.out]; exact Nat.le_refl _)] at Hr
   clear hke
   obtain ⟨ra', rc', w', hr6, ho6, hg6, hlies⟩ := OwnKZ.push HO.out x 35 (by omega) hbr.size
   rw [← hn.out] at hr6
   have Hr6 := Lib.hid hr6
   have hn6 : Hid (n + 1 = (r ++ [x]).length) := Lib.hid (by rw [List.length_append, ← hn.out]; rfl)
   have Hb6 := Lib.hid (hbr.trans (belowAt hg6 (B := w1.heap.size) (fun i e => (own_typ HO.out i e).1) hbr.size))
   have hA1 : (r ++ [x]).length ≤ L + 1 := by rw [List.length_append, List.length_singleton]; omega
   obtain ⟨A, hA⟩ : ∃ A, Hid (r ++ [x] = A) := ⟨_, Lib.hid rfl⟩
   have hA2 : Hid (A = l.filter (fun a => decide (a < x)) ++ [x]) := Lib.hid (by rw [← hA.out, Hr.out])
   rw [hA.out] at ho6 hn6 hA1
   have HO6 := Lib.hid ho6
   obtain ⟨m, hm⟩ : ∃ q, Hid (n + 1 = q) := ⟨_, Lib.hid rfl⟩
   rw [hm.out] at hn6
   rw [show .slice ra' (n + 1) rc' = Value.slice ra' m rc' by rw [hm.out]] at Hr6
   clear hr6 ho6 hg6 hlies hbr HO Hr hn hrl
   go_wp2_with (at_builtin; refine wpList_append_run rfl _ _ 35 35 rfl _ _ _ _ rfl rfl Hr6.out ?_)
   go_loopw [5, 34] (fun ov iv wr => ∃ (k n : Nat) (ra : Option Addr) (rc : Nat) (r : List Int), k ≤ L ∧ iv = .int .i64 (k : Int) ∧ ov = .slice ra n rc ∧ Hid (n = r.length) ∧ Hid (OwnKZ wr w1.heap.size ra rc r) ∧ Hid (r = A ++ (l.take k).filter (fun a => decide (x < a))) ∧ r.length ≤ L + 1 + k ∧ Below w1.heap.size w1 wr) (fun _ iv _ => L - (RowKit.intOf iv).toNat)
   case atStart => exact ⟨0, m, ra', rc', A, Nat.zero_le _, rfl, rfl, hn6, HO6, Lib.hid (by simp), by omega, Hb6.out⟩
   case round =>
    obtain ⟨k, n, ra, rc, r, hk, rfl, rfl, hn, HO, Hr, hrl, hbr⟩ := hrel
    obtain ⟨U, rfl⟩ : ∃ U, U = wr := ⟨_, rfl⟩
    by_cases hlt : k < L
    ·have hkI : (k : Int) < (L : Int) := by omega
     have hkI0 : (0 : Int) ≤ (k : Int) := by omega
     have hkl : k < l.length := by rw [HL.out]; exact hlt
     have hrow := Hl.out.grown hbr
     have Hts := Lib.hid (take_stepZ hkl (fun a => decide (x < a)))
     obtain ⟨b, off, hb⟩ := hrow.at_ k (by rw [List.length_map]; exact hkl)
     have c0 := hrow.cell b off hb k (by rw [List.length_map]; exact hkl)
     rw [List.getElem_map] at c0
     subst hb
     obtain ⟨v, hv⟩ : ∃ v, Hid (l[k] = v) := ⟨_, Lib.hid rfl⟩
     rw [hv.out] at c0 Hts
     have hbl := World.block_lt_of_cell? _ _ c0
     clear hrow
     by_cases hlv : x < v
     ·obtain ⟨ra', rc', w', hr6, ho6, hg6, hlies⟩ := OwnKZ.push HO.out v 35 (by omega) hbr.size
      rw [← hn.out] at hr6
      have Hr6 := Lib.hid hr6
      have HO6 := Lib.hid ho6
      have hn6 : Hid (n + 1 = (r ++ [v]).length) := Lib.hid (by rw [List.length_append, ← hn.out]; rfl)
      have Hr7 : Hid (r ++ [v] = A ++ (l.take (k + 1)).filter (fun a => decide (x < a))) := Lib.hid (by rw [Hts.out, Hr.out, if_pos (decide_eq_true hlv), List.append_assoc])
      have Hb6 := Lib.hid (hbr.trans (belowAt hg6 (B := w1.heap.size) (fun i e => (own_typ HO.out i e).1) hbr.size))
      clear hr6 ho6 hg6 hlies hbr HO Hr
      go_wp2_with (at_builtin; refine wpList_append_run rfl _ _ 35 35 rfl _ _ _ _ rfl rfl Hr6.out ?_)
      exact ⟨⟨k + 1, n + 1, ra', rc', r ++ [v], by omega, by go_num, rfl, hn6, HO6, Hr7, by rw [List.length_append, List.length_singleton]; omega, Hb6.out⟩, by simp [RowKit.intOf]; omega⟩
     ·have Hr7 : Hid (r = A ++ (l.take (k + 1)).filter (fun a => decide (x < a))) := Lib.hid (by rw [Hts.out, if_neg (by simpa using hlv), List.append_nil]; exact Hr.out)
      clear Hr
      go_wp2_with (fail)
      exact ⟨⟨k + 1, n, ra, rc, r, by omega, by go_num, rfl, hn, HO, Hr7, by omega, hbr⟩, by simp [RowKit.intOf]; omega⟩
    ·have hke : k = L := by omega
     have hkI : ¬ (k : Int) < (L : Int) := by omega
     rw [hke] at Hr
     rw [List.take_of_length_le (by rw [HL.out]; exact Nat.le_refl _)] at Hr
     clear hke
     have HWr : Hid (withZ l x = r) := Lib.hid (by rw [HW.out, Hr.out, hA2.out])
     have HF : Hid ((∃ oa oc, Ending.returned (.slice ra n rc) = .returned (.slice oa (withZ l x).length oc) ∧ Ints U oa oc (withZ l x) ∧ (oa = a ∨ FrB w1.heap.size oa)) ∧ Below w1.heap.size w1 U) := Lib.hid ⟨⟨ra, rc, by rw [HWr.out, hn.out], by rw [HWr.out]; exact HO.out.vs, .inr (fun b off e => by
      subst e
      rcases HO.out.2 with ⟨e1, _⟩ | ⟨g, _, _, e1, hg, _⟩
      ·cases e1
      ·injection e1 with e1
       injection e1 with e1
       injection e1 with e1
       omega)⟩, hbr⟩
     clear HO Hr hbr
     go_wp2_with (fail)
     exact bodyPost_ret (v := .slice ra n rc) (by simp [results, Try.results75, go_sem]; try first | rfl | assumption | omega) rfl HF.out
end Go.Proofs.Ytldmgifphkpdlaa
namespace Go.Proofs.Ytldmgifphkpdlaa
open Go.RowKit Go.Maps
attribute [local go_sem] Oper.semAt_some
theorem OwnKZ.app {w : World} {base cap : Nat} {a : Option Addr} {l : List Int} (h : OwnKZ w base a cap l) (b : Option Addr) (bc : Nat) (m : List Int) (hm : Ints w b bc m) (ty : TypeId) (hn : l.length + m.length ≤ 1099511627780) (hb : base ≤ w.heap.size) :
 ∃ a' c' w', (Builtin.append_ #[35, 35] ty #[.slice a l.length cap, .slice b m.length bc]).run Try.prog w = .ok (.slice a' (l.length + m.length) c') w' ∧
  OwnKZ w' base a' c' (l ++ m) ∧ Below base w w' := by
 obtain ⟨i0, hi, hz0, hz1, hz2⟩ := info_parts info_keyZ
 cases b with
 | none =>
  have e0 := hm.nil_ rfl
  have hml : m = [] := by
   have := hm.le
   rw [e0] at this
   simpa using this
  subst e0
  subst hml
  exact ⟨a, cap, w, run_append_owned_none (P := Try.prog) w base _ ty _ i0 1 Try.underlying35 hi _ _ _ h, by simpa [OwnKZ] using h, Below.refl _ w⟩
 | some b' =>
  have hnew : ∀ j u, (m.map (Value.int .i64))[j]? = some u → w.cell? (b'.add j) = some u := by
   intro j u hj
   have hjl : j < (m.map (Value.int .i64)).length := (List.getElem?_eq_some_iff.1 hj).1
   obtain ⟨b2, off, e⟩ := hm.at_ j hjl
   have e := Option.some.inj e
   subst e
   have := hm.cell b2 off rfl j hjl
   rw [show (⟨b2, off, none⟩ : Addr).add j = ⟨b2, off + j, none⟩ from by unfold Addr.add; split <;> simp_all]
   exact this.trans ((List.getElem?_eq_getElem hjl).symm.trans hj)
  obtain ⟨v', w', hrun, ho, hg, _⟩ := run_append_own (P := Try.prog) w base 35 ty 3 i0 _ 1 8 Try.underlying35 hi hz0 hz1 hz2 rfl (by decide) _ l.length _ h b' m.length bc (m.map (Value.int .i64)) (by simp) hnew (fun u hu => by
   obtain ⟨x, _, rfl⟩ := List.mem_map.1 hu
   rfl) (by unfold maxLen; omega) (by omega) hb
  obtain ⟨a', cap', rfl⟩ := slice_of_own ho
  refine ⟨a', cap', w', hrun, ?_, belowAt hg (fun g e0 => (own_typ h g e0).1) hb⟩
  unfold OwnKZ
  rw [List.map_append, List.length_append]
  exact ho
end Go.Proofs.Ytldmgifphkpdlaa
namespace Go.Proofs.Ytldmgifphkpdlaa
open Go.RowKit Go.Maps
attribute [local go_sem] Oper.semAt_some
/-- What begins a list is a grammar's token. -/
theorem tok_near {d : CfD} (hf : FitC d) {f : Nat → Bool} {l : List Int} (hl : OkL d.toks.length d.alts.length l) {t : Int} (h : TokP (d.alts.map IrD.p) f l t) : 0 ≤ t ∧ t ≤ 100 := by
 have := rchd_near hf (fun x hx => ⟨(hl x hx).1, by have := (hl x hx).2; have := hf.t; omega⟩) h.2
 exact ⟨h.1, this.2⟩
theorem ris_len101 {l : List Int} {P : Int → Prop} (h : Ris l P) (hP : ∀ t, P t → 0 ≤ t ∧ t ≤ 100) : l.length ≤ 300 := by
 have := ris_len h (nearU 0) (fun x hx => nearU_mem.2 (by have := hP x hx; omega))
 have e : (nearU 0).length = 300 := by unfold nearU; rw [List.length_map, List.length_range]
 omega
theorem ris_take {y : List Int} {P : Int → Prop} {r : List Int} {k : Nat} (h : k < y.length) (hr : Ris r (fun t => P t ∨ t ∈ y.take k)) : Ris (withZ r y[k]) (fun t => P t ∨ t ∈ y.take (k + 1)) := by
 refine ⟨withZ_up hr.up, fun t => ?_⟩
 rw [withZ_mem, hr.mem t, List.take_add_one, List.getElem?_eq_getElem h, List.mem_append]
 constructor
 ·rintro ((h1 | h1) | h1)
  ·exact .inl h1
  ·exact .inr (.inl h1)
  ·exact .inr (.inr (by simp [h1]))
 ·rintro (h1 | h1 | h1)
  ·exact .inl (.inl h1)
  ·exact .inl (.inr h1)
  ·exact .inr (by simpa using h1)
end Go.Proofs.Ytldmgifphkpdlaa
namespace Go.Proofs.Ytldmgifphkpdlaa
open Go.RowKit Go.Maps
attribute [local go_sem] Oper.semAt_some
set_option maxRecDepth 100000 in
set_option maxHeartbeats 16000000 in
theorem rule9_any (d : CfD) (x : Int) (w : World) (hd : CfAt w d) (hx : -(d.alts.length : Int) ≤ x ∧ x ≤ 1000000000) (hl : d.alts.length ≤ 1000000) :
 Calls Try.prog 66 #[d.v, .int .i64 x] w fun e w' => e = .returned (.int .i64 (if x < 0 then ((ruL x : Nat) : Int) else -1)) ∧ Below w.heap.size w w' := by
 obtain ⟨xt, xta, xtc, xn, xna, xnc, xa, xaa, xac⟩ := d
 have hxm : xa.length ≤ xac ∧ xac ≤ 9223372036854775807 := ⟨by have := hd.alts.le; rwa [List.length_map] at this, hd.alts.max⟩
 dsimp only [CfD.v] at *
 have hb1 : Below w.heap.size w (w.alloc (.cells #[.slice xta xt.length xtc, .slice xna xn.length xnc, .slice xaa xa.length xac] 25)) := (Below.refl _ w).alloc (Nat.le_refl _) _
 have hA := Blk.new w 25 #[.slice xta xt.length xtc, .slice xna xn.length xnc, .slice xaa xa.length xac]
 obtain ⟨T, HT⟩ : ∃ q, Hid (xt.length = q) := ⟨_, Lib.hid rfl⟩
 obtain ⟨N, HN⟩ : ∃ q, Hid (xn.length = q) := ⟨_, Lib.hid rfl⟩
 obtain ⟨L, HL⟩ : ∃ q, Hid (xa.length = q) := ⟨_, Lib.hid rfl⟩
 rw [HT.out, HN.out, HL.out] at hA hb1
 rw [HT.out, HN.out, HL.out]
 have x0 := hA.cell 0
 have x1 := hA.cell 1
 have x2 := hA.cell 2
 have xl := hA.lt
 simp only [List.getElem?_cons_zero, List.getElem?_cons_succ] at x0 x1 x2
 have HA := Lib.hid hA
 have Hb1 := Lib.hid hb1
 rw [HL.out] at hxm hx hl
 clear hd hA hb1 HA
 by_cases h0 : x < 0
 ·rw [if_pos h0]
  obtain ⟨r, hr⟩ : ∃ r, Hid (ruL x = r) := ⟨_, Lib.hid rfl⟩
  have hxr : x = -1 - (r : Int) := by rw [← hr.out]; exact (of_ruL h0).symm
  rw [hr.out]
  clear hr
  subst hxr
  have hw : IntKind.i64.wrap (-1 - (-1 - (r : Int))) = (r : Int) := by rw [show (-1 - (-1 - (r : Int))) = (r : Int) by omega]; exact IntWalk.i64_in _ (by omega)
  have hI : (r : Int) < (L : Int) := by omega
  go_enter Try.func66, Try.ntmps66
  go_wp2_with (fail)
  exact bodyPost_ret (v := .int .i64 (r : Int)) (by simp [results, Try.results66, go_sem]; try first | rfl | assumption | omega) rfl ⟨rfl, Hb1.out⟩
 ·rw [if_neg h0]
  go_enter Try.func66, Try.ntmps66
  go_wp2_with (fail)
  exact bodyPost_ret (v := .int .i64 (-1)) (by simp [results, Try.results66, go_sem]; try first | rfl | assumption | omega) rfl ⟨rfl, Hb1.out⟩
set_option maxRecDepth 100000 in
set_option maxHeartbeats 16000000 in
theorem emp9_any (d : CfD) (s : List Int) (sa : Option Addr) (sc : Nat) (na : Option Addr) (nc : Nat) (f : Nat → Bool) (w : World) (hd : CfAt w d) (hs : Ints w sa sc s) (hn : BlsF w na nc d.alts.length f) (hx : ∀ x ∈ s, -(d.alts.length : Int) ≤ x ∧ x ≤ 1000000000) (hl : d.alts.length ≤ 1000000) :
 Calls Try.prog 53 #[d.v, .slice sa s.length sc, .slice na d.alts.length nc] w fun e w' => e = .returned (.bool (emp f s)) ∧ Below w.heap.size w w' := by
 have HR := Lib.hid (fun x (hx : -(d.alts.length : Int) ≤ x ∧ x ≤ 1000000000) W (hb : Below w.heap.size w W) => rule9_any d x W (hd.grown hb) hx hl)
 have hsm : s.length ≤ sc ∧ sc ≤ 9223372036854775807 := ⟨by have := hs.le; rwa [List.length_map] at this, hs.max⟩
 have hnm : d.alts.length ≤ nc ∧ nc ≤ 9223372036854775807 := ⟨by have := hn.le; simpa using this, hn.max⟩
 have Hs := Lib.hid hs
 have Hn := Lib.hid hn
 have Hx := Lib.hid hx
 obtain ⟨xt, xta, xtc, xn, xna, xnc, xa, xaa, xac⟩ := d
 dsimp only [CfD.v] at *
 have hb1 : Below w.heap.size w (w.alloc (.cells #[.slice xta xt.length xtc, .slice xna xn.length xnc, .slice xaa xa.length xac] 25)) := (Below.refl _ w).alloc (Nat.le_refl _) _
 have hA := Blk.new w 25 #[.slice xta xt.length xtc, .slice xna xn.length xnc, .slice xaa xa.length xac]
 obtain ⟨T, HT⟩ : ∃ q, Hid (xt.length = q) := ⟨_, Lib.hid rfl⟩
 obtain ⟨N, HN⟩ : ∃ q, Hid (xn.length = q) := ⟨_, Lib.hid rfl⟩
 obtain ⟨L, HL⟩ : ∃ q, Hid (xa.length = q) := ⟨_, Lib.hid rfl⟩
 rw [HT.out, HN.out, HL.out] at hA hb1
 rw [HT.out, HN.out, HL.out]
 have x0 := hA.cell 0
 have x1 := hA.cell 1
 have x2 := hA.cell 2
 have xl := hA.lt
 simp only [List.getElem?_cons_zero, List.getElem?_cons_succ] at x0 x1 x2
 have HA := Lib.hid hA
 have Hb1 := Lib.hid hb1
 obtain ⟨S, HS⟩ : ∃ q, Hid (s.length = q) := ⟨_, Lib.hid rfl⟩
 rw [HS.out] at hsm ⊢
 rw [HL.out] at hnm hl Hn Hx
 rw [HT.out, HN.out, HL.out] at HR
 obtain ⟨B, HB⟩ : ∃ q, Hid (emp f s = q) := ⟨_, Lib.hid rfl⟩
 rw [HB.out]
 clear hd hA hb1 hs hn hx
 go_enter Try.func53, Try.ntmps53
 go_wp2_with (fail)
 obtain ⟨bx, hbx⟩ : ∃ q, Hid (w.heap.size = q) := ⟨_, Lib.hid rfl⟩
 rw [hbx.out] at HA x0 x1 x2 xl ⊢
 generalize hV : World.alloc w _ = V at HA x0 x1 x2 xl Hb1 ⊢
 clear hV x0 x1 x2 xl
 go_loopw [12] (fun iv wr => ∃ k : Nat, k ≤ S ∧ iv = .int .i64 (k : Int) ∧ Hid (B = emp f (s.drop k)) ∧ Hid (Blk wr bx 25 [.slice xta T xtc, .slice xna N xnc, .slice xaa L xac]) ∧ Below w.heap.size w wr) (fun iv _ => S - (RowKit.intOf iv).toNat)
 case atStart => exact ⟨0, Nat.zero_le _, rfl, Lib.hid HB.out.symm, HA, Hb1.out⟩
 case round =>
  clear HA Hb1
  obtain ⟨k, hk, rfl, HE, HA, hbr⟩ := hrel
  obtain ⟨U, rfl⟩ : ∃ U, U = wr := ⟨_, rfl⟩
  by_cases hlt : k < S
  ·have hkI : (k : Int) < (S : Int) := by omega
   have hkI0 : (0 : Int) ≤ (k : Int) := by omega
   have hkl : k < s.length := by rw [HS.out]; exact hlt
   have hrow := Hs.out.grown hbr
   have hdr := List.drop_eq_getElem_cons hkl
   obtain ⟨b, bo, hb⟩ := hrow.at_ k (by rw [List.length_map]; exact hkl)
   have cb := hrow.cell b bo hb k (by rw [List.length_map]; exact hkl)
   rw [List.getElem_map] at cb
   have hm := Hx.out _ (List.getElem_mem hkl)
   obtain ⟨x, hx⟩ : ∃ v, Hid (s[k] = v) := ⟨_, Lib.hid rfl⟩
   rw [hx.out] at cb hm hdr
   have hblb := World.block_lt_of_cell? _ _ cb
   subst hb
   have x0 := HA.out.cell 0
   have x1 := HA.out.cell 1
   have x2 := HA.out.cell 2
   have xl := HA.out.lt
   simp only [List.getElem?_cons_zero, List.getElem?_cons_succ] at x0 x1 x2
   have HE2 : Hid (B = ((decide (x < 0) && f (ruL x)) && emp f (s.drop (k + 1)))) := Lib.hid (by rw [HE.out, hdr, emp_cons])
   have Hru := Lib.hid (HR.out x hm U hbr)
   clear hrow hdr
   by_cases h0 : x < 0
   ·rw [if_pos h0] at Hru
    rw [decide_eq_true h0, Bool.true_and] at HE2
    have hrL : ruL x < L := by unfold ruL; omega
    obtain ⟨r, hr⟩ : ∃ r, Hid (ruL x = r) := ⟨_, Lib.hid rfl⟩
    rw [hr.out] at Hru HE2 hrL
    have hrI : (r : Int) < (L : Int) := by omega
    have hrI0 : (0 : Int) ≤ (r : Int) := by omega
    go_wp2_with (fail)
    refine Hru.out.mono ?_
    rintro e w3 ⟨rfl, hb3⟩
    have Hb3 := Lib.hid (hbr.trans (hb3.mono hbr.size))
    have HA3 := Lib.hid (HA.out.below hb3 HA.out.lt)
    have hn3 := Vs.grown Hn.out Hb3.out
    obtain ⟨n0, no, hn0⟩ := hn3.at_ r (by simpa using hrL)
    have cn := hn3.cell n0 no hn0 r (by simpa using hrL)
    rw [range_at] at cn
    have hbln := World.block_lt_of_cell? _ _ cn
    subst hn0
    obtain ⟨q, hq⟩ : ∃ v, Hid (f r = v) := ⟨_, Lib.hid rfl⟩
    rw [hq.out] at cn HE2
    clear x0 x1 x2 xl hb3 hn3 hbr
    cases q
    ·have HBf : Hid (B = false) := Lib.hid (by rw [HE2.out]; rfl)
     go_wp2_with (fail)
     exact bodyPost_ret (v := .bool false) (by simp [results, Try.results53, go_sem]; try first | rfl | assumption | omega) rfl ⟨by rw [HBf.out], Hb3.out⟩
    ·have HBn : Hid (B = emp f (s.drop (k + 1))) := Lib.hid (by rw [HE2.out]; rfl)
     go_wp2_with (fail)
     exact ⟨⟨k + 1, by omega, by go_num, HBn, HA3, Hb3.out⟩, by simp [RowKit.intOf]; omega⟩
   ·rw [if_neg h0] at Hru
    rw [decide_eq_false h0, Bool.false_and, Bool.false_and] at HE2
    go_wp2_with (fail)
    refine Hru.out.mono ?_
    rintro e w3 ⟨rfl, hb3⟩
    have Hb3 := Lib.hid (hbr.trans (hb3.mono hbr.size))
    clear x0 x1 x2 xl hb3 hbr
    go_wp2_with (fail)
    exact bodyPost_ret (v := .bool false) (by simp [results, Try.results53, go_sem]; try first | rfl | assumption | omega) rfl ⟨by rw [HE2.out], Hb3.out⟩
  ·have hke : k = S := by omega
   have hkI : ¬ (k : Int) < (S : Int) := by omega
   have HBt : Hid (B = true) := Lib.hid (by rw [HE.out, List.drop_eq_nil_of_le (by rw [HS.out]; omega)]; rfl)
   clear hke
   go_wp2_with (fail)
   exact bodyPost_ret (v := .bool true) (by simp [results, Try.results53, go_sem]; try first | rfl | assumption | omega) rfl ⟨by rw [HBt.out], hbr⟩
set_option maxRecDepth 100000 in
set_option maxHeartbeats 16000000 in
theorem all9_any (l m : List Int) (a b : Option Addr) (ac bc : Nat) (P : Int → Prop) (w : World) (hl : Ints w a ac l) (hm : Ints w b bc m) (hr : Ris l P) (hP : ∀ t, P t → 0 ≤ t ∧ t ≤ 100) (hmr : ∀ t ∈ m, 0 ≤ t ∧ t ≤ 100) :
 Calls Try.prog 58 #[.slice a l.length ac, .slice b m.length bc] w fun e w' => ∃ oa oc, ∃ r : List Int, e = .returned (.slice oa r.length oc) ∧ Ints w' oa oc r ∧ Ris r (fun t => P t ∨ t ∈ m) ∧ (oa = a ∨ FrB w.heap.size oa) ∧ Below w.heap.size w w' := by
 have hmm : m.length ≤ bc ∧ bc ≤ 9223372036854775807 := ⟨by have := hm.le; rwa [List.length_map] at this, hm.max⟩
 obtain ⟨L, HL⟩ : ∃ q, Hid (l.length = q) := ⟨_, Lib.hid rfl⟩
 obtain ⟨M, HM⟩ : ∃ q, Hid (m.length = q) := ⟨_, Lib.hid rfl⟩
 rw [HM.out] at hmm ⊢
 rw [HL.out]
 have Hl := Lib.hid hl
 have Hm := Lib.hid hm
 have Hr := Lib.hid hr
 have HP := Lib.hid hP
 have Hmr := Lib.hid hmr
 clear hl hm hr hP hmr
 go_enter Try.func58, Try.ntmps58
 go_wp2_with (fail)
 go_loopw [0, 9] (fun sv iv wr => ∃ (k n : Nat) (oa : Option Addr) (oc : Nat) (r : List Int), k ≤ M ∧ iv = .int .i64 (k : Int) ∧ sv = .slice oa n oc ∧ Hid (n = r.length) ∧ Hid (Ints wr oa oc r) ∧ Hid (Ris r (fun t => P t ∨ t ∈ m.take k)) ∧ Hid (oa = a ∨ FrB w.heap.size oa) ∧ Below w.heap.size w wr) (fun _ iv _ => M - (RowKit.intOf iv).toNat)
 case atStart => exact ⟨0, L, a, ac, l, Nat.zero_le _, rfl, rfl, Lib.hid HL.out.symm, Hl, Lib.hid ⟨Hr.out.up, fun t => by rw [Hr.out.mem t]; simp⟩, Lib.hid (.inl rfl), Below.refl _ _⟩
 case round =>
  obtain ⟨k, n, oa, oc, r, hk, rfl, rfl, hn, HI, HR, HF, hbr⟩ := hrel
  obtain ⟨U, rfl⟩ : ∃ U, U = wr := ⟨_, rfl⟩
  by_cases hlt : k < M
  ·have hkI : (k : Int) < (M : Int) := by omega
   have hkI0 : (0 : Int) ≤ (k : Int) := by omega
   have hkl : k < m.length := by rw [HM.out]; exact hlt
   have hrow := Hm.out.grown hbr
   have HRn := Lib.hid (ris_take hkl HR.out)
   have hrl : r.length ≤ 300 := ris_len101 HR.out (fun t ht => ht.elim (HP.out t) (fun h => Hmr.out t (List.mem_of_mem_take h)))
   obtain ⟨b9, b9o, hb9⟩ := hrow.at_ k (by rw [List.length_map]; exact hkl)
   have cb9 := hrow.cell b9 b9o hb9 k (by rw [List.length_map]; exact hkl)
   rw [List.getElem_map] at cb9
   obtain ⟨x, hx⟩ : ∃ v, Hid (m[k] = v) := ⟨_, Lib.hid rfl⟩
   rw [hx.out] at cb9 HRn
   have hblb9 := World.block_lt_of_cell? _ _ cb9
   subst hb9
   have Hw := Lib.hid (with9_any r x oa oc U HI.out (by omega))
   rw [← hn.out] at Hw
   clear hrow hrl
   go_wp2_with (fail)
   refine Hw.out.mono ?_
   rintro e w9 ⟨⟨oa2, oc2, rfl, hi9, hf9⟩, hb9⟩
   have HI9 := Lib.hid hi9
   have HF9 : Hid (oa2 = a ∨ FrB w.heap.size oa2) := Lib.hid (by
    rcases hf9 with rfl | hf9
    ·exact HF.out
    ·exact .inr (fun b off e => Nat.le_trans hbr.size (hf9 b off e)))
   have Hb9 := Lib.hid (hbr.trans (hb9.mono hbr.size))
   clear hi9 hb9 hf9 Hw
   go_wp2_with (fail)
   exact ⟨⟨k + 1, _, oa2, oc2, _, by omega, by go_num, rfl, Lib.hid rfl, HI9, HRn, HF9, Hb9.out⟩, by simp [RowKit.intOf]; omega⟩
  ·have hke : k = M := by omega
   have hkI : ¬ (k : Int) < (M : Int) := by omega
   have HRe : Hid (Ris r (fun t => P t ∨ t ∈ m)) := Lib.hid (by have := HR.out; rwa [hke, List.take_of_length_le (by rw [HM.out]; exact Nat.le_refl _)] at this)
   have HFin : Hid (∃ oa' oc', ∃ r' : List Int, Ending.returned (.slice oa n oc) = .returned (.slice oa' r'.length oc') ∧ Ints U oa' oc' r' ∧ Ris r' (fun t => P t ∨ t ∈ m) ∧ (oa' = a ∨ FrB w.heap.size oa') ∧ Below w.heap.size w U) := Lib.hid ⟨oa, oc, r, by rw [hn.out], HI.out, HRe.out, HF.out, hbr⟩
   clear hke hbr
   go_wp2_with (fail)
   exact bodyPost_ret (v := .slice oa n oc) (by simp [results, Try.results58, go_sem]; try first | rfl | assumption | omega) rfl HFin.out
end Go.Proofs.Ytldmgifphkpdlaa
namespace Go.Proofs.Ytldmgifphkpdlaa
open Go.RowKit Go.Maps
attribute [local go_sem] Oper.semAt_some
/-- What begins a list, if so much begins each rule. -/
def ldQ (K : Nat → Int → Prop) (s : List Int) (t : Int) : Prop := ∃ y ∈ s, (0 ≤ y ∧ t = y) ∨ (y < 0 ∧ K (ruL y) t)
def ldP (K : Nat → Int → Prop) (f : Nat → Bool) (s : List Int) (t : Int) : Prop := ldQ K (ahd f s) t
theorem ldQ_app {K : Nat → Int → Prop} {s u : List Int} {t : Int} : ldQ K (s ++ u) t ↔ ldQ K s t ∨ ldQ K u t := by
 unfold ldQ
 constructor
 ·rintro ⟨y, hy, h⟩
  rcases List.mem_append.1 hy with hy | hy
  ·exact .inl ⟨y, hy, h⟩
  ·exact .inr ⟨y, hy, h⟩
 ·rintro (⟨y, hy, h⟩ | ⟨y, hy, h⟩)
  ·exact ⟨y, List.mem_append.2 (.inl hy), h⟩
  ·exact ⟨y, List.mem_append.2 (.inr hy), h⟩
theorem ldQ_one {K : Nat → Int → Prop} {x t : Int} : ldQ K [x] t ↔ (0 ≤ x ∧ t = x) ∨ (x < 0 ∧ K (ruL x) t) := by
 unfold ldQ
 simp
theorem ahd_at {f : Nat → Bool} {s : List Int} {k : Nat} (h : k < s.length) (he : emp f (s.take k) = true) (hx : (decide (s[k] < 0) && f (ruL s[k])) = false) : ahd f s = s.take k ++ [s[k]] := by
 have e : s = s.take k ++ s[k] :: s.drop (k + 1) := by rw [← List.drop_eq_getElem_cons h, List.take_append_drop]
 conv => lhs; rw [e]
 exact ahd_stop hx he
theorem emp_at {f : Nat → Bool} {s : List Int} {k : Nat} (h : k < s.length) (he : emp f (s.take k) = true) (hx : (decide (s[k] < 0) && f (ruL s[k])) = true) : emp f (s.take (k + 1)) = true := by
 rw [List.take_add_one, List.getElem?_eq_getElem h, emp_app, he]
 simpa [emp] using hx
theorem ris_or {P Q : Int → Prop} {r : List Int} (h : Ris r P) (e : ∀ t, P t ↔ Q t) : Ris r Q := ⟨h.up, fun t => (h.mem t).trans (e t)⟩
set_option maxRecDepth 100000 in
set_option maxHeartbeats 16000000 in
theorem lead9_any (d : CfD) (s : List Int) (sa : Option Addr) (sc : Nat) (na : Option Addr) (nc : Nat) (f : Nat → Bool) (ka : Option Addr) (kc : Nat) (ds : List IltD) (K : Nat → Int → Prop) (w : World) (hd : CfAt w d) (hs : Ints w sa sc s) (hn : BlsF w na nc d.alts.length f) (hx : ∀ x ∈ s, -(d.alts.length : Int) ≤ x ∧ x ≤ 100) (hl : d.alts.length ≤ 1000000) (hk : AltsI w ka kc ds) (hkl : ds.length = d.alts.length) (hK : ∀ r (h : r < ds.length), Ris ds[r].l (K r)) (hKb : ∀ r t, K r t → 0 ≤ t ∧ t ≤ 100) :
 Calls Try.prog 59 #[d.v, .slice sa s.length sc, .slice na d.alts.length nc, .slice ka ds.length kc] w fun e w' => ∃ oa oc, ∃ r : List Int, e = .returned (.slice oa r.length oc) ∧ Ints w' oa oc r ∧ Ris r (ldP K f s) ∧ Below w.heap.size w w' := by
 have HR := Lib.hid (fun x (hx : -(d.alts.length : Int) ≤ x ∧ x ≤ 1000000000) W (hb : Below w.heap.size w W) => rule9_any d x W (hd.grown hb) hx hl)
 have hsm : s.length ≤ sc ∧ sc ≤ 9223372036854775807 := ⟨by have := hs.le; rwa [List.length_map] at this, hs.max⟩
 have hnm : d.alts.length ≤ nc ∧ nc ≤ 9223372036854775807 := ⟨by have := hn.le; simpa using this, hn.max⟩
 have hkm : ds.length ≤ kc ∧ kc ≤ 9223372036854775807 := ⟨by have := hk.row.le; rwa [List.length_map] at this, hk.row.max⟩
 have Hs := Lib.hid hs
 have Hn := Lib.hid hn
 have Hx := Lib.hid hx
 have Hk := Lib.hid hk
 have HK := Lib.hid hK
 have HKb := Lib.hid hKb
 have Hkl := Lib.hid hkl
 obtain ⟨xt, xta, xtc, xn, xna, xnc, xa, xaa, xac⟩ := d
 dsimp only [CfD.v] at *
 rw [hkl] at hkm ⊢
 have hb1 : Below w.heap.size w (w.alloc (.cells #[.slice xta xt.length xtc, .slice xna xn.length xnc, .slice xaa xa.length xac] 25)) := (Below.refl _ w).alloc (Nat.le_refl _) _
 have hA := Blk.new w 25 #[.slice xta xt.length xtc, .slice xna xn.length xnc, .slice xaa xa.length xac]
 obtain ⟨T, HT⟩ : ∃ q, Hid (xt.length = q) := ⟨_, Lib.hid rfl⟩
 obtain ⟨N, HN⟩ : ∃ q, Hid (xn.length = q) := ⟨_, Lib.hid rfl⟩
 obtain ⟨L, HL⟩ : ∃ q, Hid (xa.length = q) := ⟨_, Lib.hid rfl⟩
 rw [HT.out, HN.out, HL.out] at hA hb1
 rw [HT.out, HN.out, HL.out]
 have x0 := hA.cell 0
 have x1 := hA.cell 1
 have x2 := hA.cell 2
 have xl := hA.lt
 simp only [List.getElem?_cons_zero, List.getElem?_cons_succ] at x0 x1 x2
 have HA := Lib.hid hA
 have Hb1 := Lib.hid hb1
 obtain ⟨S, HS⟩ : ∃ q, Hid (s.length = q) := ⟨_, Lib.hid rfl⟩
 rw [HS.out] at hsm ⊢
 rw [HL.out] at hnm hl Hn Hx hkm Hkl
 rw [HT.out, HN.out, HL.out] at HR
 clear hd hA hb1 hs hn hx hk hK hKb hkl
 go_enter Try.func59, Try.ntmps59
 go_wp2_with (fail)
 obtain ⟨bx, hbx⟩ : ∃ q, Hid (w.heap.size = q) := ⟨_, Lib.hid rfl⟩
 rw [hbx.out] at HA x0 x1 x2 xl ⊢
 generalize hV : World.alloc w _ = V at HA x0 x1 x2 xl Hb1 ⊢
 clear hV x0 x1 x2 xl
 go_loopw [9, 15] (fun sv iv wr => ∃ (k n : Nat) (oa : Option Addr) (oc : Nat) (r : List Int), k ≤ S ∧ iv = .int .i64 (k : Int) ∧ sv = .slice oa n oc ∧ Hid (n = r.length) ∧ Hid (Ints wr oa oc r) ∧ Hid (Ris r (ldQ K (s.take k))) ∧ Hid (emp f (s.take k) = true) ∧ Hid (Blk wr bx 25 [.slice xta T xtc, .slice xna N xnc, .slice xaa L xac]) ∧ Below w.heap.size w wr) (fun _ iv _ => S - (RowKit.intOf iv).toNat)
 case atStart => exact ⟨0, 0, none, 0, [], Nat.zero_le _, rfl, rfl, Lib.hid rfl, Lib.hid (Vs.nil _), Lib.hid ⟨List.Pairwise.nil, fun t => by simp [ldQ]⟩, Lib.hid rfl, HA, Hb1.out⟩
 case round =>
  clear HA Hb1
  obtain ⟨k, n, oa, oc, r, hk, rfl, rfl, hn, HI, Hr, HE, HA, hbr⟩ := hrel
  obtain ⟨U, rfl⟩ : ∃ U, U = wr := ⟨_, rfl⟩
  by_cases hlt : k < S
  ·have hkI : (k : Int) < (S : Int) := by omega
   have hkI0 : (0 : Int) ≤ (k : Int) := by omega
   have hkl : k < s.length := by rw [HS.out]; exact hlt
   have hrow := Hs.out.grown hbr
   have hst : s.take (k + 1) = s.take k ++ [s[k]] := by rw [List.take_add_one, List.getElem?_eq_getElem hkl]; rfl
   have hah : (decide (s[k] < 0) && f (ruL s[k])) = false → ahd f s = s.take k ++ [s[k]] := fun h => ahd_at hkl HE.out h
   have hem : (decide (s[k] < 0) && f (ruL s[k])) = true → emp f (s.take (k + 1)) = true := fun h => emp_at hkl HE.out h
   have hbd : ∀ t, ldQ K (s.take k) t → 0 ≤ t ∧ t ≤ 100 := fun t ht => by
    obtain ⟨y, hy, ⟨h1, rfl⟩ | ⟨_, h1⟩⟩ := ht
    ·exact ⟨h1, (Hx.out _ (List.mem_of_mem_take hy)).2⟩
    ·exact HKb.out _ t h1
   have Hbd := Lib.hid hbd
   obtain ⟨b, bo, hb⟩ := hrow.at_ k (by rw [List.length_map]; exact hkl)
   have cb := hrow.cell b bo hb k (by rw [List.length_map]; exact hkl)
   rw [List.getElem_map] at cb
   have hm := Hx.out _ (List.getElem_mem hkl)
   obtain ⟨x, hx⟩ : ∃ v, Hid (s[k] = v) := ⟨_, Lib.hid rfl⟩
   rw [hx.out] at cb hm hst hah hem
   have hblb := World.block_lt_of_cell? _ _ cb
   subst hb
   have x0 := HA.out.cell 0
   have x1 := HA.out.cell 1
   have x2 := HA.out.cell 2
   have xl := HA.out.lt
   simp only [List.getElem?_cons_zero, List.getElem?_cons_succ] at x0 x1 x2
   have Hah := Lib.hid hah
   have Hem := Lib.hid hem
   have Hst := Lib.hid hst
   have Hru := Lib.hid (HR.out x ⟨hm.1, by omega⟩ U hbr)
   clear hrow hst hah hem hbd
   by_cases h0 : x < 0
   ·rw [if_pos h0] at Hru
    rw [decide_eq_true h0, Bool.true_and] at Hah Hem
    have hge : ¬ (0 : Int) ≤ x := by omega
    have hrL : ruL x < L := by unfold ruL; omega
    have Hor : Hid (∀ t, (ldQ K (s.take k) t ∨ K (ruL x) t) ↔ ldQ K (s.take k ++ [x]) t) := Lib.hid (fun t => by
     rw [ldQ_app, ldQ_one]
     exact or_congr Iff.rfl ⟨fun h => .inr ⟨h0, h⟩, fun h => h.elim (fun h => absurd h.1 hge) (fun h => h.2)⟩)
    obtain ⟨ru, hru⟩ : ∃ r, Hid (ruL x = r) := ⟨_, Lib.hid rfl⟩
    rw [hru.out] at Hru Hah Hem hrL Hor
    have hrI : (ru : Int) < (L : Int) := by omega
    have hrI0 : (0 : Int) ≤ (ru : Int) := by omega
    go_wp2_with (fail)
    refine Hru.out.mono ?_
    rintro e w3 ⟨rfl, hb3⟩
    have Hb3 := Lib.hid (hbr.trans (hb3.mono hbr.size))
    have HA3 := Lib.hid (HA.out.below hb3 HA.out.lt)
    have HI3 := Lib.hid (HI.out.grown hb3)
    have hk3 := Hk.out.grown Hb3.out
    have hrd : ru < ds.length := by rw [Hkl.out]; exact hrL
    obtain ⟨k0, ko, hk0⟩ := hk3.row.at_ ru (by rw [List.length_map]; exact hrd)
    have ck := hk3.row.cell k0 ko hk0 ru (by rw [List.length_map]; exact hrd)
    rw [List.getElem_map] at ck
    have hki := hk3.nms _ (List.getElem_mem hrd)
    have hkr := HK.out ru hrd
    obtain ⟨u, hu⟩ : ∃ v, Hid (ds[ru] = v) := ⟨_, Lib.hid rfl⟩
    rw [hu.out] at ck hki hkr
    obtain ⟨ul, ua, uc⟩ := u
    change _ = some (Value.slice ua ul.length uc) at ck
    dsimp only at hki hkr
    have hblk := World.block_lt_of_cell? _ _ ck
    have Hall := Lib.hid (all9_any r ul oa ua oc uc (ldQ K (s.take k)) w3 HI3.out hki Hr.out Hbd.out (fun t ht => HKb.out _ t ((hkr.mem t).1 ht)))
    have Hkr := Lib.hid hkr
    rw [← hn.out] at Hall
    obtain ⟨UL, hUL⟩ : ∃ v, Hid (ul.length = v) := ⟨_, Lib.hid rfl⟩
    rw [hUL.out] at Hall ck
    subst hk0
    clear x0 x1 x2 xl hb3 hk3 hki hkr hbr
    go_wp2_with (fail)
    clear ck hblk
    refine Hall.out.mono ?_
    rintro e w4 ⟨oa2, oc2, r2, rfl, hi4, hr4, _, hb4⟩
    have HI4 := Lib.hid hi4
    have Hr4 : Hid (Ris r2 (ldQ K (s.take k ++ [x]))) := Lib.hid (ris_or hr4 (fun t => (or_congr Iff.rfl (Hkr.out.mem t)).trans (Hor.out t)))
    have Hb4 := Lib.hid (Hb3.out.trans (hb4.mono Hb3.out.size))
    have HA4 := Lib.hid (HA3.out.below hb4 HA3.out.lt)
    have hn4 := Vs.grown Hn.out Hb4.out
    obtain ⟨n0, no, hn0⟩ := hn4.at_ ru (by simpa using hrL)
    have cn := hn4.cell n0 no hn0 ru (by simpa using hrL)
    rw [range_at] at cn
    have hbln := World.block_lt_of_cell? _ _ cn
    subst hn0
    obtain ⟨q, hq⟩ : ∃ v, Hid (f ru = v) := ⟨_, Lib.hid rfl⟩
    rw [hq.out] at cn Hah Hem
    obtain ⟨n2, hn2⟩ : ∃ v, Hid (v = r2.length) := ⟨_, Lib.hid rfl⟩
    rw [← hn2.out]
    clear hi4 hr4 hb4 hn4
    cases q
    ·have hFin : Hid (∃ oa oc, ∃ r : List Int, Ending.returned (.slice oa2 n2 oc2) = .returned (.slice oa r.length oc) ∧ Ints w4 oa oc r ∧ Ris r (ldP K f s) ∧ Below w.heap.size w w4) := Lib.hid ⟨oa2, oc2, r2, by rw [hn2.out], HI4.out, by unfold ldP; rw [Hah.out rfl]; exact Hr4.out, Hb4.out⟩
     go_wp2_with (fail)
     exact bodyPost_ret (v := .slice oa2 n2 oc2) (by simp [results, Try.results59, go_sem]; try first | rfl | assumption | omega) rfl hFin.out
    ·have HEn : Hid (emp f (s.take (k + 1)) = true) := Lib.hid (Hem.out rfl)
     have HrN : Hid (Ris r2 (ldQ K (s.take (k + 1)))) := Lib.hid (by rw [Hst.out]; exact Hr4.out)
     go_wp2_with (fail)
     exact ⟨⟨k + 1, n2, oa2, oc2, r2, by omega, by go_num, rfl, hn2, HI4, HrN, HEn, HA4, Hb4.out⟩, by simp [RowKit.intOf]; omega⟩
   ·rw [if_neg h0] at Hru
    rw [decide_eq_false h0, Bool.false_and] at Hah
    have Hah2 := Lib.hid (Hah.out rfl)
    clear Hah Hem
    have hge : (0 : Int) ≤ x := by omega
    have Hor : Hid (∀ t, (ldQ K (s.take k) t ∨ t = x) ↔ ldQ K (s.take k ++ [x]) t) := Lib.hid (fun t => by
     rw [ldQ_app, ldQ_one]
     exact or_congr Iff.rfl ⟨fun h => .inl ⟨hge, h⟩, fun h => h.elim (fun h => h.2) (fun h => absurd h.1 h0)⟩)
    have hrl : r.length ≤ 300 := ris_len101 Hr.out Hbd.out
    go_wp2_with (fail)
    refine Hru.out.mono ?_
    rintro e w3 ⟨rfl, hb3⟩
    have Hb3 := Lib.hid (hbr.trans (hb3.mono hbr.size))
    have HI3 := Lib.hid (HI.out.grown hb3)
    have Hw := Lib.hid (with9_any r x oa oc w3 HI3.out (by omega))
    rw [← hn.out] at Hw
    clear x0 x1 x2 xl hb3 hrl hbr
    go_wp2_with (fail)
    refine Hw.out.mono ?_
    rintro e w4 ⟨⟨oa2, oc2, rfl, hi4, _⟩, hb4⟩
    have hFin : Hid (∃ oa oc, ∃ r' : List Int, Ending.returned (.slice oa2 (withZ r x).length oc2) = .returned (.slice oa r'.length oc) ∧ Ints w4 oa oc r' ∧ Ris r' (ldP K f s) ∧ Below w.heap.size w w4) := Lib.hid ⟨oa2, oc2, withZ r x, rfl, hi4, by unfold ldP; rw [Hah2.out]; exact ris_or (Hr.out.with_ x) Hor.out, Hb3.out.trans (hb4.mono Hb3.out.size)⟩
    clear hi4 hb4 Hw
    go_wp2_with (fail)
    exact bodyPost_ret (v := .slice oa2 (withZ r x).length oc2) (by simp [results, Try.results59, go_sem]; try first | rfl | assumption | omega) rfl hFin.out
  ·have hke : k = S := by omega
   have hkI : ¬ (k : Int) < (S : Int) := by omega
   have hFin : Hid (∃ oa' oc', ∃ r' : List Int, Ending.returned (.slice oa n oc) = .returned (.slice oa' r'.length oc') ∧ Ints U oa' oc' r' ∧ Ris r' (ldP K f s) ∧ Below w.heap.size w U) := Lib.hid (by
    have h1 := Hr.out
    have h2 := HE.out
    rw [hke, List.take_of_length_le (by rw [HS.out]; exact Nat.le_refl _)] at h1 h2
    exact ⟨oa, oc, r, by rw [hn.out], HI.out, by unfold ldP; rw [ahd_emp h2]; exact h1, hbr⟩)
   clear hke hbr
   go_wp2_with (fail)
   exact bodyPost_ret (v := .slice oa n oc) (by simp [results, Try.results59, go_sem]; try first | rfl | assumption | omega) rfl hFin.out
end Go.Proofs.Ytldmgifphkpdlaa
