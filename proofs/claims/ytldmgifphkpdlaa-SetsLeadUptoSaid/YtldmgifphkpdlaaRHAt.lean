/- Texts joined: Jr Js Jt Wc. -/
import Derived.Test.YtldmgifphkpdlaaRHAs
import Derived.Test.YtldmgifphkpdlaaRHAo
import Derived.Test.YtldmgifphkpdlaaRHAg
import Derived.Test.YtldmgifphkpdlaaRHAq
set_option linter.unusedVariables false
set_option linter.unusedSimpArgs false
namespace Go.Proofs.Ytldmgifphkpdlaa
open Go.RowKit Go.Maps

attribute [local go_sem] Oper.semAt_some

/-- One step up. -/
def StL (ML : Nat → Int → Bool) (N : Nat) (x y : Int) : Prop := ∃ r : Nat, x = (r : Int) ∧ r < N ∧ ML r y = true
theorem pair_nodup {l : List Int} (h : l.Pairwise (· < ·)) : l.Nodup := h.imp (fun h => by omega)
theorem ris_len {l : List Int} {P : Int → Prop} (h : Ris l P) (U : List Int) (hU : ∀ x, P x → x ∈ U) : l.length ≤ U.length := nodupLe l U (pair_nodup h.up) (fun x hx => hU x ((h.mem x).1 hx))
theorem rng_few {W : World} {b r n cnt : Nat} {M left : Int → Bool} (h : RngZ W b r n M left cnt) (U : List Int) (hU : ∀ x, M x = true → x ∈ U) : cnt ≤ U.length := by
  obtain ⟨D, lf, h1, h2, h3, _⟩ := h
  obtain ⟨hk1, hk2⟩ := set_keys h1.owns
  have hl : (Go.intKeys D).length ≤ U.length := nodupLe _ U hk1 (fun x hx => hU x (by rw [← h3]; exact (hk2 x).1 hx))
  obtain ⟨es, clock, since, seen, c0, q1, q2, q3, q4, q5, q6, q7, _⟩ := h1
  have h4 : (leftOf es seen).size ≤ es.size := by unfold leftOf; exact Array.size_filter_le
  have h5 : (Go.intKeys D).length = es.size := by
    rw [q4]
    unfold Go.intKeys
    rw [List.length_map, Go.length_sorted, List.length_map, Array.length_toList]
  omega
set_option maxRecDepth 100000 in
set_option maxHeartbeats 16000000 in
theorem up_any (W0 W : World) (lb5 hb lb N n m : Nat) (ba : Option Addr) (bc : Nat) (la : Option Addr) (lc : Nat) (p q : Nat → Nat) (MB ML : Nat → Int → Bool) (B : Nat) (oa : Option Addr) (oc : Nat) (F O : List Int) (r : Nat)
    (hB : Blk W0 lb5 75 [.slice la N lc]) (hN : NbAt W0 B hb lb N m ba bc la lc p q MB ML) (hm : m ≤ 1000000000) (hML : ∀ r y, ML r y = true → 0 ≤ y ∧ y < (N : Int)) (hN60 : N ≤ 60) (hb : Below W0.heap.size W0 W) (hr : r < N)
    (hR : RchAtZ W W0.heap.size (W0.heap.size + 1 + 1) (W0.heap.size + 1) W0.heap.size n oa oc F O) (hO : O.length ≤ 400000) (hn : n ≤ 1000000000000) :
    Calls Try.prog 62 #[.int .i64 (r : Int), addVZ (W0.heap.size + 1) (W0.heap.size + 1 + 1), .pointer (some ⟨lb5, 0, none⟩)] W (NextQZ W W0.heap.size (W0.heap.size + 1 + 1) (W0.heap.size + 1) W0.heap.size n F O (StL ML N) (r : Int)) := by
  have hNw := hN.below hb
  have hBw := hB.below hb hB.lt
  obtain ⟨g1, hg1, hc1⟩ := row_at hNw.r2 hr
  have hc1l := World.block_lt_of_cell? _ _ hc1
  have hle := row_le hNw.r2
  have Ho := Lib.hid (ordered_any (q r) m (ML r) W (hNw.s2 r hr) (by omega))
  have x0 := hBw.cell 0
  have xl := hBw.lt
  simp only [List.getElem?_cons_zero] at x0
  have hrI : (r : Int) < (N : Int) := by omega
  have hrI0 : (0 : Int) ≤ (r : Int) := by omega
  have HR := Lib.hid hR
  have hbW := hb.size
  have Hst : Hid (∀ y, ML r y = true ↔ StL ML N (r : Int) y) := Lib.hid (fun y => ⟨fun h => ⟨r, rfl, hr, h⟩, fun ⟨s, e, _, h⟩ => by
    have e2 : r = s := by omega
    rw [e2]; exact h⟩)
  have HMLr : Hid (∀ y, ML r y = true → 0 ≤ y ∧ y < (N : Int)) := Lib.hid (hML r)
  obtain ⟨Q, hQ⟩ : ∃ Q, Hid (NextQZ W W0.heap.size (W0.heap.size + 1 + 1) (W0.heap.size + 1) W0.heap.size n F O (StL ML N) (r : Int) = Q) := ⟨_, Lib.hid rfl⟩
  rw [hQ.out]
  have HQ := Lib.hid hQ.out
  obtain ⟨qr, hqr⟩ : ∃ x, Hid (q r = x) := ⟨_, Lib.hid rfl⟩
  rw [hqr.out] at hc1 Ho
  obtain ⟨base, hbase⟩ : ∃ q, Hid (W0.heap.size = q) := ⟨_, Lib.hid rfl⟩
  rw [hbase.out] at HR HQ hbW ⊢
  subst hg1
  clear hNw hBw hR hB hN hb hML hQ
  go_enter Try.func62, Try.ntmps62
  go_wp2_with (fail)
  refine Ho.out.mono ?_
  rintro e w2 ⟨ra, rc, l, rfl, hr2, ho2, hb2⟩
  have HR2 := Lib.hid (HR.out.below hb2)
  have Hb2 : Hid (Below base W w2) := Lib.hid (hb2.mono hbW)
  have hll := ris_len hr2 ((List.range N).map (fun i : Nat => (i : Int))) (fun x hx => by
    have := HMLr.out x hx
    exact List.mem_map.2 ⟨x.toNat, List.mem_range.2 (by omega), by omega⟩)
  rw [List.length_map, List.length_range] at hll
  have hap : ApLZ w2 ra (base + 1 + 1) base oa O.length oc := fun g off e => by
    subst e
    obtain ⟨h1, h2⟩ := World.ownsRow.lt ho2 g rfl
    have h3 := HR.out.obx.lt
    have h4 := HR.out.set.lt
    refine ⟨by omega, by omega, h2, fun e3 => ?_⟩
    have := (World.ownsRow.lt HR.out.own g e3).2
    omega
  have Hc := Lib.hid (addR_anyZ w2 base (base + 1 + 1) (base + 1) base n oa oc F O l ra rc HR2.out ho2.vs hap (fun x hx => wf9 (by have := HMLr.out x ((hr2.mem x).1 hx); omega)) (by omega) (by omega) (Nat.le_trans hbW hb2.size))
  have HL : Hid (∀ y, y ∈ l ↔ StL ML N (r : Int) y) := Lib.hid (fun y => (hr2.mem y).trans (Hst.out y))
  obtain ⟨LL, hLL⟩ : ∃ q, Hid (l.length = q) := ⟨_, Lib.hid rfl⟩
  have hll2 : LL ≤ 60 := by rw [← hLL.out]; omega
  rw [hLL.out] at Hc ⊢
  clear hr2 ho2 hb2 hap hll x0 xl hc1 hc1l
  go_wp2_with (fail)
  refine Hc.out.mono ?_
  rintro e w5 ⟨rfl, n5, a5, c5, hn5, hR5, hb5⟩
  have Hfin : Hid (Q (.returned (.tuple #[])) w5) := Lib.hid (by
    rw [← HQ.out]
    exact ⟨rfl, l, n5, a5, c5, HL.out, by rw [hLL.out] at hn5; omega, hR5, Hb2.out.trans hb5⟩)
  clear hR5 hb5 hn5
  go_wp2_with (fail)
  first | exact Hfin.out | exact bodyPost_end (v := .tuple #[]) (by simp [results, Try.results62, go_sem]; try rfl) rfl Hfin.out
end Go.Proofs.Ytldmgifphkpdlaa

namespace Go.Proofs.Ytldmgifphkpdlaa
open Go.RowKit Go.Maps

attribute [local go_sem] Oper.semAt_some

/-- What is behind some rules that have come. -/
noncomputable def nxB (MM left : Int → Bool) (MB : Nat → Int → Bool) (z : Int) : Bool := by
  classical exact decide (∃ o : Nat, MM (o : Int) = true ∧ left (o : Int) = false ∧ MB o z = true)
theorem nxB_iff {MM left : Int → Bool} {MB : Nat → Int → Bool} {z : Int} : nxB MM left MB z = true ↔ ∃ o : Nat, MM (o : Int) = true ∧ left (o : Int) = false ∧ MB o z = true := by unfold nxB; simp
theorem nxB_start (MM : Int → Bool) (MB : Nat → Int → Bool) (z : Int) : nxB MM MM MB z = false := by
  cases e : nxB MM MM MB z
  · rfl
  · obtain ⟨o, h1, h2, _⟩ := nxB_iff.1 e
    rw [h1] at h2
    cases h2
theorem nxB_step {MM left : Int → Bool} {MB : Nat → Int → Bool} {r : Nat} (hM : MM (r : Int) = true) (z : Int) : nxB MM (fun y => left y && !decide (y = (r : Int))) MB z = (nxB MM left MB z || MB r z) := by
  rw [Bool.eq_iff_iff, Bool.or_eq_true, nxB_iff, nxB_iff]
  constructor
  · rintro ⟨o, h1, h2, h3⟩
    by_cases e : o = r
    · subst e; exact .inr h3
    · have : ¬ (o : Int) = (r : Int) := by omega
      simp [this] at h2
      exact .inl ⟨o, h1, h2, h3⟩
  · rintro (⟨o, h1, h2, h3⟩ | h)
    · exact ⟨o, h1, by simp [h2], h3⟩
    · exact ⟨r, hM, by simp, h⟩
/-- What lies behind, and the end behind the first. -/
def mbE (MB : Nat → Int → Bool) (T : Nat) (s : Nat) (y : Int) : Bool := MB s y || (decide (s = 0) && decide (y = (T : Int)))
theorem mb_beh {al : List (List (List Int))} {f : Nat → Bool} {T s : Nat} {y : Int} : mbE (mbO f (occG al al.length)) T s y = true ↔ BehP al f T s y := by
  unfold mbE mbO BehP
  rw [Bool.or_eq_true, List.any_eq_true, Bool.and_eq_true, decide_eq_true_eq, decide_eq_true_eq]
  constructor
  · rintro (⟨o, ho, h⟩ | h)
    · obtain ⟨r, hr, a, ha, u, x, hu, hx, rfl⟩ := occG_mem.1 ho
      rw [Bool.and_eq_true, decide_eq_true_eq, decide_eq_true_eq] at h
      exact .inr ⟨r, hr, a, ha, u, by rw [h.1]; dsimp only; rw [of_ruL hx]; exact hu, h.2⟩
    · exact .inl h
  · rintro (h | ⟨r, hr, a, ha, u, hu, hy⟩)
    · exact .inr h
    · refine .inl ⟨_, occG_mem.2 ⟨r, hr, a, ha, u, _, hu, by omega, rfl⟩, ?_⟩
      rw [Bool.and_eq_true, decide_eq_true_eq, decide_eq_true_eq]
      exact ⟨(ruL_of s).symm, hy⟩
theorem ml_last {al : List (List (List Int))} {f : Nat → Bool} {s : Nat} {y : Int} : mlO f (occG al al.length) s y = true ↔ ∃ r : Nat, y = (r : Int) ∧ LstP al f s r := by
  unfold mlO LstP
  rw [List.any_eq_true]
  constructor
  · rintro ⟨o, ho, h⟩
    obtain ⟨r, hr, a, ha, u, x, hu, hx, rfl⟩ := occG_mem.1 ho
    rw [Bool.and_eq_true, Bool.and_eq_true, decide_eq_true_eq, decide_eq_true_eq] at h
    exact ⟨r, h.2.2, hr, a, ha, u, by rw [h.1]; dsimp only; rw [of_ruL hx]; exact hu, h.2.1⟩
  · rintro ⟨r, rfl, hr, a, ha, u, hu, he⟩
    refine ⟨_, occG_mem.2 ⟨r, hr, a, ha, u, _, hu, by omega, rfl⟩, ?_⟩
    rw [Bool.and_eq_true, Bool.and_eq_true, decide_eq_true_eq, decide_eq_true_eq]
    exact ⟨(ruL_of s).symm, he, rfl⟩
/-- What is reached upwards, as numbers. -/
theorem up_rchd {al : List (List (List Int))} {f : Nat → Bool} {r : Nat} (hr : r < al.length) (x : Int) : Rchd [(r : Int)] (StL (mlO f (occG al al.length)) al.length) x ↔ ∃ o : Nat, x = (o : Int) ∧ o < al.length ∧ Rchd [r] (LstP al f) o := by
  constructor
  · intro h
    induction h with
    | base h => rw [List.mem_singleton] at h; exact ⟨r, h, hr, .base (by simp)⟩
    | step _ h2 ih =>
      obtain ⟨s, rfl, hs, h3⟩ := h2
      obtain ⟨o, ho, hol, h4⟩ := ih
      obtain ⟨t, rfl, h5⟩ := ml_last.1 h3
      have : s = o := by omega
      subst this
      exact ⟨t, rfl, h5.1, h4.step h5⟩
  · rintro ⟨o, rfl, ho, h⟩
    clear ho
    have key : Rchd [(r : Int)] (StL (mlO f (occG al al.length)) al.length) (o : Int) ∧ o < al.length := by
      induction h with
      | base h => rw [List.mem_singleton] at h; subst h; exact ⟨.base (by simp), hr⟩
      | step _ h2 ih => exact ⟨ih.1.step ⟨_, rfl, ih.2, ml_last.2 ⟨_, rfl, h2⟩⟩, h2.1⟩
    exact key.1
/-- What follows, by what is put together. -/
theorem fol_of {al : List (List (List Int))} {f : Nat → Bool} {T r : Nat} (hr : r < al.length) {l : List Int} {MM : Int → Bool} (hM : ∀ x, MM x = true ↔ Rchd [(r : Int)] (StL (mlO f (occG al al.length)) al.length) x) (hl : ∀ y, y ∈ l ↔ nxB MM (fun _ => false) (mbE (mbO f (occG al al.length)) T) y = true) (t : Int) : TokP al f l t ↔ FolP al f T r t := by
  rw [tok_iff]
  unfold FolP
  constructor
  · rintro ⟨x, hx, ht⟩
    obtain ⟨o, h1, _, h3⟩ := nxB_iff.1 ((hl x).1 hx)
    obtain ⟨o', e, _, h4⟩ := (up_rchd hr _).1 ((hM _).1 h1)
    have : o = o' := by omega
    subst this
    exact ⟨ht.1, o, h4, x, mb_beh.1 h3, ht⟩
  · rintro ⟨h0, o, ho, y, hb, ht⟩
    have hol : o < al.length := by
      cases ho with
      | base h => rw [List.mem_singleton] at h; omega
      | step _ h => exact h.1
    exact ⟨y, (hl y).2 (nxB_iff.2 ⟨o, (hM _).2 ((up_rchd hr _).2 ⟨o, rfl, hol, ho⟩), rfl, mb_beh.2 hb⟩), ht⟩

end Go.Proofs.Ytldmgifphkpdlaa

namespace Go.Proofs.Ytldmgifphkpdlaa
open Go.RowKit Go.Maps

attribute [local go_sem] Oper.semAt_some

set_option maxRecDepth 100000 in
set_option maxHeartbeats 16000000 in
theorem sFollow_any (d : CfD) (w : World) (hd : CfAt w d) (hf : FitC d) :
    Calls Try.prog 21 #[d.v] w (LstQ w d.alts.length (fun r => FolP (d.alts.map IrD.p) (nulB (d.alts.map IrD.p)) d.toks.length r)) := by
  have Hfit := Lib.hid (fun W (hb : Below w.heap.size w W) => fits_any d W (hd.grown hb) hf)
  have hft := hf.t
  have hfr := hf.r
  have hf0 := hf.r0
  have Hnb := Lib.hid (fun W (hb : Below w.heap.size w W) => newB_any d W (hd.grown hb) hf)
  have Hng := Lib.hid (fun W (hb : Below w.heap.size w W) na nc (hn : BlsF W na nc d.alts.length (nulB (d.alts.map IrD.p))) => neigh_any d na nc (nulB (d.alts.map IrD.p)) W (hd.grown hb) hn hf)
  have Htk := Lib.hid (fun W (hb : Below w.heap.size w W) na nc (hn : BlsF W na nc d.alts.length (nulB (d.alts.map IrD.p))) (l : List Int) la lc (hi : Ints W la lc l) (hl : ∀ x ∈ l, -(d.alts.length : Int) ≤ x ∧ x ≤ 100) (hll : l.length ≤ 1000) (hlb : l ≠ [] → ∀ g off, la = some ⟨g, off, none⟩ → g < W.heap.size) => tokens_any d na nc (nulB (d.alts.map IrD.p)) l la lc W (hd.grown hb) hn hf hi hl hll hlb)
  have HMLb : Hid (∀ r y, mlO (nulB (d.alts.map IrD.p)) (occG (d.alts.map IrD.p) d.alts.length) r y = true → 0 ≤ y ∧ y < (d.alts.length : Int)) := Lib.hid (fun r y h => by
    have e : d.alts.length = (d.alts.map IrD.p).length := (List.length_map _).symm
    rw [e] at h
    obtain ⟨s, rfl, hs⟩ := ml_last.1 h
    have := hs.1
    rw [← e] at this
    omega)
  have HMBb : Hid (∀ r y, mbE (mbO (nulB (d.alts.map IrD.p)) (occG (d.alts.map IrD.p) d.alts.length)) d.toks.length r y = true → -(d.alts.length : Int) ≤ y ∧ y ≤ 60) := Lib.hid (fun r y h => by
    have e : d.alts.length = (d.alts.map IrD.p).length := (List.length_map _).symm
    rw [e] at h
    rcases mb_beh.1 h with ⟨_, rfl⟩ | ⟨s, _, a, ha, u, _, hy⟩
    · omega
    · obtain ⟨x, hx, q, hq, rfl⟩ := al_mem ha
      have := (hf.l x hx q hq).2 _ (List.mem_of_mem_drop (ahd_sub hy))
      omega)
  have Hfol : Hid (∀ (r : Nat), r < d.alts.length → ∀ (l : List Int) (MM : Int → Bool), (∀ x, MM x = true ↔ Rchd [(r : Int)] (StL (mlO (nulB (d.alts.map IrD.p)) (occG (d.alts.map IrD.p) d.alts.length)) d.alts.length) x) → (∀ y, y ∈ l ↔ nxB MM (fun _ => false) (mbE (mbO (nulB (d.alts.map IrD.p)) (occG (d.alts.map IrD.p) d.alts.length)) d.toks.length) y = true) → ∀ t, TokP (d.alts.map IrD.p) (nulB (d.alts.map IrD.p)) l t ↔ FolP (d.alts.map IrD.p) (nulB (d.alts.map IrD.p)) d.toks.length r t) := Lib.hid (fun r hr l MM hM hl t => by
    have e : d.alts.length = (d.alts.map IrD.p).length := (List.length_map _).symm
    rw [e] at hM hl hr
    exact fol_of hr hM hl t)
  have HUp : Hid (∀ (r : Nat), r < d.alts.length → ∀ x, Rchd [(r : Int)] (StL (mlO (nulB (d.alts.map IrD.p)) (occG (d.alts.map IrD.p) d.alts.length)) d.alts.length) x → ∃ o : Nat, x = (o : Int) ∧ o < d.alts.length) := Lib.hid (fun r hr x h => by
    have e : d.alts.length = (d.alts.map IrD.p).length := (List.length_map _).symm
    rw [e] at h hr ⊢
    obtain ⟨o, h1, h2, _⟩ := (up_rchd hr x).1 h
    exact ⟨o, h1, h2⟩)
  obtain ⟨xt, xta, xtc, xn, xna, xnc, xa, xaa, xac⟩ := d
  have hxm : xa.length ≤ xac ∧ xac ≤ 9223372036854775807 := ⟨by have := hd.alts.le; rwa [List.length_map] at this, hd.alts.max⟩
  have htm : xt.length ≤ xtc ∧ xtc ≤ 9223372036854775807 := ⟨by have := hd.toks.le; rwa [List.length_map] at this, hd.toks.max⟩
  dsimp only [CfD.v] at *
  obtain ⟨NB, hNB2⟩ : ∃ q, Hid (nulB (xa.map IrD.p) = q) := ⟨_, Lib.hid rfl⟩
  rw [hNB2.out] at Hnb Htk Hng HMLb HMBb Hfol HUp ⊢
  obtain ⟨P, hP⟩ : ∃ q : Nat → Int → Prop, Hid ((fun r : Nat => FolP (xa.map IrD.p) NB xt.length r) = q) := ⟨_, Lib.hid rfl⟩
  have HP : Hid (∀ r : Nat, FolP (xa.map IrD.p) NB xt.length r = P r) := Lib.hid (fun r => congrFun hP.out r)
  rw [hP.out]
  obtain ⟨Q, hQ⟩ : ∃ Q, Hid (LstQ w xa.length P = Q) := ⟨_, Lib.hid rfl⟩
  rw [hQ.out]
  have hb1 : Below w.heap.size w (w.alloc (.cells #[.slice xta xt.length xtc, .slice xna xn.length xnc, .slice xaa xa.length xac] 25)) := (Below.refl _ w).alloc (Nat.le_refl _) _
  have hA := Blk.new w 25 #[.slice xta xt.length xtc, .slice xna xn.length xnc, .slice xaa xa.length xac]
  obtain ⟨MB, hMB⟩ : ∃ q, Hid (mbO NB (occG (xa.map IrD.p) xa.length) = q) := ⟨_, Lib.hid rfl⟩
  obtain ⟨ML, hML⟩ : ∃ q, Hid (mlO NB (occG (xa.map IrD.p) xa.length) = q) := ⟨_, Lib.hid rfl⟩
  rw [hMB.out, hML.out] at Hng Hfol
  rw [hMB.out] at HMBb
  rw [hML.out] at HMLb HUp
  obtain ⟨T, HT⟩ : ∃ q, Hid (xt.length = q) := ⟨_, Lib.hid rfl⟩
  obtain ⟨N, HN⟩ : ∃ q, Hid (xn.length = q) := ⟨_, Lib.hid rfl⟩
  obtain ⟨L, HL⟩ : ∃ q, Hid (xa.length = q) := ⟨_, Lib.hid rfl⟩
  rw [HT.out, HN.out, HL.out] at hA hb1 Hnb Hfit ⊢
  rw [HL.out] at Htk hQ hfr hf0 hxm Hng HMLb HUp
  rw [HL.out, HT.out] at HMBb
  rw [HT.out] at hft htm HP
  have Hfol' : Hid (∀ (r : Nat), r < L → ∀ (l : List Int) (MM : Int → Bool), (∀ x, MM x = true ↔ Rchd [(r : Int)] (StL ML L) x) → (∀ y, y ∈ l ↔ nxB MM (fun _ => false) (mbE MB T) y = true) → ∀ t, TokP (xa.map IrD.p) NB l t ↔ P r t) := Lib.hid (by
    have h := Hfol.out
    rw [HL.out, HT.out] at h
    intro r hr l MM hM hl t
    rw [← HP.out]
    exact h r hr l MM hM hl t)
  have HQ := Lib.hid hQ.out
  obtain ⟨iO, hiO, hzO, hsO, hbO⟩ := info_parts info_rowI
  have Hmk := Lib.hid (fun (W : World) => run_makeSlice_full (P := Try.prog) (w := W) W.heap.size 32 35 iO (.slice none 0 0) 1 Try.underlying32 hiO hzO hsO .i64 .i64 L (by omega) (by rw [hbO]; omega) (by unfold maxLen; omega) (Nat.le_refl _))
  have x0 := hA.cell 0
  have x1 := hA.cell 1
  have x2 := hA.cell 2
  have xl := hA.lt
  simp only [List.getElem?_cons_zero, List.getElem?_cons_succ] at x0 x1 x2
  have HA := Lib.hid hA
  have Hb1 := Lib.hid hb1
  clear hd hf hQ hA hb1 hiO hzO hsO hbO hP Hfol
  go_enter Try.func21, Try.ntmps21
  go_wp2_with (fail)
  have Hc1 := Lib.hid (Hfit.out _ Hb1.out)
  obtain ⟨bx, hbx⟩ : ∃ q, Hid (w.heap.size = q) := ⟨_, Lib.hid rfl⟩
  rw [hbx.out] at HA xl x0 x1 x2 ⊢
  generalize hV : World.alloc w _ = V at HA x0 x1 x2 xl Hb1 Hc1 ⊢
  clear hV
  refine Hc1.out.mono ?_
  rintro e w2 ⟨rfl, hb2⟩
  have HA2 := Lib.hid (HA.out.below hb2 HA.out.lt)
  have Hb2 := Lib.hid (Hb1.out.trans (hb2.mono Hb1.out.size))
  clear x0 x1 x2 xl hb2 Hc1
  have x0 := HA2.out.cell 0
  have x1 := HA2.out.cell 1
  have x2 := HA2.out.cell 2
  have xl := HA2.out.lt
  simp only [List.getElem?_cons_zero, List.getElem?_cons_succ] at x0 x1 x2
  have Hc3 := Lib.hid (Hnb.out _ Hb2.out)
  go_wp2_with (fail)
  refine Hc3.out.mono ?_
  rintro e w4 ⟨na, nc, rfl, hn4, hb4⟩
  have Hb4 := Lib.hid (Hb2.out.trans (hb4.mono Hb2.out.size))
  have hb5 : Below w4.heap.size w4 (w4.alloc (.cells #[.slice xaa L xac, .slice na L nc] 68)) := (Below.refl _ w4).alloc (Nat.le_refl _) _
  have HB5 := Lib.hid (Blk.new w4 68 #[.slice xaa L xac, .slice na L nc])
  have HA5 := Lib.hid ((HA2.out.below hb4 HA2.out.lt).below hb5 (HA2.out.below hb4 HA2.out.lt).lt)
  have HN5 := Lib.hid (hn4.grown hb5)
  have Hb5 := Lib.hid (Hb4.out.trans (hb5.mono Hb4.out.size))
  obtain ⟨bb, hbb⟩ : ∃ q, Hid (w4.heap.size = q) := ⟨_, Lib.hid rfl⟩
  rw [hbb.out] at HB5
  clear hn4 hb4 hb5 x0 x1 x2 xl Hc3
  have hy0 := HB5.out.cell 0
  have hy1 := HB5.out.cell 1
  have hyl := HB5.out.lt
  simp only [List.getElem?_cons_zero, List.getElem?_cons_succ] at hy0 hy1
  go_wp2_with (fail)
  rw [hbb.out]
  generalize hV : World.alloc w4 _ = V5 at HB5 HA5 HN5 Hb5 hy0 hy1 hyl ⊢
  clear hV
  refine (Hng.out V5 Hb5.out na nc HN5.out).mono ?_
  rintro e w6 ⟨B, hb, lb, n6, ba, bc, la, lc, p, q, rfl, hn6, hN6, hB6, hb6⟩
  have hb7 : Below w6.heap.size w6 (w6.alloc (.cells #[.slice la L lc] 75)) := (Below.refl _ w6).alloc (Nat.le_refl _) _
  have HL7 := Lib.hid (Blk.new w6 75 #[.slice la L lc])
  have HN7 := Lib.hid (hN6.below hb7)
  have hbb7 := hb6.trans (hb7.mono hb6.size)
  have hb57 := hbb7
  have HB7 := Lib.hid (HB5.out.below hbb7 HB5.out.lt)
  have HA7 := Lib.hid (HA5.out.below hbb7 HA5.out.lt)
  have HNu7 := Lib.hid (HN5.out.grown hbb7)
  have Hb7 := Lib.hid (Hb5.out.trans (hbb7.mono Hb5.out.size))
  obtain ⟨l5, hl5⟩ : ∃ q, Hid (w6.heap.size = q) := ⟨_, Lib.hid rfl⟩
  rw [hl5.out] at HL7
  have hb57' := Lib.hid hb57
  clear hN6 hb6 hb7 hbb7 hy0 hy1 hyl hb57
  go_wp2_with (fail)
  rw [hl5.out]
  generalize hV : World.alloc w6 _ = V7 at HL7 HN7 HB7 HA7 HNu7 Hb7 hb57' ⊢
  clear hV
  obtain ⟨g1, hg1, hc1⟩ := row_at HN7.out.r1 hf0
  have hleb := row_le HN7.out.r1
  have Hadd := Lib.hid (zAdd_any V7.drew (p 0) n6 (MB 0) (T : Int) (HN7.out.s1 0 hf0) (wf9 (by omega)) (by unfold maxLen; omega))
  have HS7 : Hid (V7.drew.cell? ⟨g1, 0, none⟩ = some (.map (some (p 0))) ∧ V7.drew.cell? ⟨bx, 0, none⟩ = some (.slice xta T xtc)) := Lib.hid ⟨hc1, HA7.out.cell 0⟩
  obtain ⟨p0, hp0⟩ : ∃ x, Hid (p 0 = x) := ⟨_, Lib.hid rfl⟩
  have hlo0 := (HN7.out.lo.2.2.2 0 hf0).1
  rw [hp0.out] at Hadd HS7 hlo0
  obtain ⟨Z0, hZ0⟩ : ∃ x, Hid ((!(MB 0 (T : Int))) = x) := ⟨_, Lib.hid rfl⟩
  rw [hZ0.out] at Hadd
  have hL0I : (0 : Int) < (L : Int) := by omega
  subst hg1
  clear hc1
  refine wp_region_held_drew (S := fun w' => w'.cell? ⟨g1, 0, none⟩ = some (.map (some p0)) ∧ w'.cell? ⟨bx, 0, none⟩ = some (.slice xta T xtc)) (by kernel_rfl) ?_ (fun hHeld => ?_)
  · exact HS7.out
  refine wpAnyH_take (i := 0) (v := ?_) (iatLS iatZS) (by kernel_rfl) (by kernel_rfl) (by kernel_rfl) (fun _ _ _ h => h) (Or.inl ⟨by rfl, ?_⟩) (by assumption) ?_
  rotate_left
  · intro w hSw
    try dsimp only at hSw
    go_simp
    all_goals with_reducible rfl
  try simp only [Act.put, List.setIfInBounds_toArray, List.set_cons_zero, List.set_cons_succ]
  refine wpAnyH_take (i := 1) (v := ?_) (iatLS (iatSS iatZS)) (by kernel_rfl) (by kernel_rfl) (by kernel_rfl) (fun _ _ _ h => h) (Or.inl ⟨by rfl, ?_⟩) (by assumption) ?_
  rotate_left
  · intro w hSw
    try dsimp only at hSw
    go_simp
    all_goals with_reducible rfl
  try simp only [Act.put, List.setIfInBounds_toArray, List.set_cons_zero, List.set_cons_succ]
  refine wpAnyH_take (i := 2) (v := ?_) (iatLS (iatSS (iatSS iatZS))) (by kernel_rfl) (by kernel_rfl) (by kernel_rfl) (fun _ _ _ h => h) (Or.inl ⟨by rfl, ?_⟩) (by assumption) ?_
  rotate_left
  · intro w hSw
    try dsimp only at hSw
    go_simp
    all_goals with_reducible rfl
  try simp only [Act.put, List.setIfInBounds_toArray, List.set_cons_zero, List.set_cons_succ]
  refine wpAnyH_take (i := 3) (v := ?_) (iatLS (iatSS (iatSS (iatSS iatZS)))) (by kernel_rfl) (by kernel_rfl) (by kernel_rfl) (fun _ _ _ h => h) (Or.inl ⟨by rfl, ?_⟩) (by assumption) ?_
  rotate_left
  · intro w hSw
    try dsimp only at hSw
    go_simp
    all_goals with_reducible rfl
  try simp only [Act.put, List.setIfInBounds_toArray, List.set_cons_zero, List.set_cons_succ]
  refine wpAnyH_take (i := 4) (v := ?_) (iatLS (iatSS (iatSS (iatSS (iatSS iatZS))))) (by kernel_rfl) (by kernel_rfl) (by kernel_rfl) (fun _ _ _ h => h) (Or.inl ⟨by rfl, ?_⟩) (by assumption) ?_
  rotate_left
  · intro w hSw
    try dsimp only at hSw
    go_simp
    all_goals with_reducible rfl
  try simp only [Act.put, List.setIfInBounds_toArray, List.set_cons_zero, List.set_cons_succ]
  refine wpAnyH_take (i := 5) (v := ?_) (iatLS (iatSS (iatSS (iatSS (iatSS (iatSS iatZS)))))) (by kernel_rfl) (by kernel_rfl) (by kernel_rfl) (fun _ _ _ h => h) (Or.inl ⟨by rfl, ?_⟩) (by assumption) ?_
  rotate_left
  · intro w hSw
    try dsimp only at hSw
    go_simp
    all_goals with_reducible rfl
  try simp only [Act.put, List.setIfInBounds_toArray, List.set_cons_zero, List.set_cons_succ]
  refine wpAnyH_ready (rs := [6]) (by kernel_rfl) (by simp) ?_
  refine AllReadyH.cons (iatLS (iatSS (iatSS (iatSS (iatSS (iatSS (iatSS iatZS))))))) (fun K hK => ?_) AllReadyH.nil
  go_simp
  (with_reducible refine Hadd.out.mono ?_)
  rintro e8 w8 ⟨rfl, hs8, hg8⟩
  have hN7d : NbAt V7.drew B hb lb L n6 (some ⟨g1, 0, none⟩) bc la lc p q MB ML := HN7.out.below (Below.refl _ V7).drew
  have HN8 : Hid (NbAt w8 B hb lb L (n6 + 1) (some ⟨g1, 0, none⟩) bc la lc p q (mbE MB T) ML) := Lib.hid ((hN7d.turn1 hf0 (by rw [hp0.out]; exact hs8) (by rw [hp0.out]; exact hg8)).congr (fun s y => by
    unfold mbE
    by_cases e : s = 0
    · subst e; rw [if_pos rfl]; cases MB 0 y <;> simp
    · rw [if_neg e]; simp [e]) (fun s y => rfl))
  have hb78 : Below B V7 w8 := (Below.refl B V7).drew.trans (belowAt hg8 (fun i e => by injection e with e; omega) (by have := hN7d.lo; have := hN7d.hbx.lt; omega))
  have hb58 : Below V5.heap.size V5 w8 := hb57'.out.trans (hb78.mono hB6)
  have HB8 := Lib.hid (HB5.out.below hb58 HB5.out.lt)
  have HA8 := Lib.hid (HA5.out.below hb58 HA5.out.lt)
  have HNu8 := Lib.hid (HN5.out.grown hb58)
  have HL8 := Lib.hid ((show Blk V7.drew l5 75 [.slice la L lc] from HL7.out).kept hg8 (fun e => mapZ_ne_blk (hN7d.s1 0 hf0) (show Blk V7.drew l5 75 [.slice la L lc] from HL7.out) (by rw [hp0.out]; injection e)))
  have Hb8 := Lib.hid (Hb5.out.trans (hb58.mono Hb5.out.size))
  obtain ⟨g3, hg3, hc3⟩ := row_at HN8.out.r1 hf0
  injection hg3 with hg3
  injection hg3 with hg3
  subst hg3
  rw [hp0.out] at hc3
  have HS8 : Hid (w8.cell? ⟨g1, 0, none⟩ = some (.map (some p0)) ∧ w8.cell? ⟨bx, 0, none⟩ = some (.slice xta T xtc)) := Lib.hid ⟨hc3, HA8.out.cell 0⟩
  clear hs8 hg8 hN7d hb78 hb58 hc3
  try dsimp only
  refine hK.out _ _ ?_ (fun hHeld => ?_)
  · exact HS8.out
  clear hK K
  try simp only [Act.put, List.setIfInBounds_toArray, List.set_cons_zero, List.set_cons_succ]
  refine wpAnyH_done (by kernel_rfl) ?_ _
  have x2 := HA8.out.cell 2
  have xl := HA8.out.lt
  simp only [List.getElem?_cons_zero, List.getElem?_cons_succ] at x2
  obtain ⟨w9, hrun9, ho9, hg9⟩ := Hmk.out w8
  rw [made_fill _ rfl] at ho9
  have hb9 := belowAt hg9 (fun i e => by cases e) (Nat.le_refl _)
  obtain ⟨base, hbase⟩ : ∃ q, Hid (w8.heap.size = q) := ⟨_, Lib.hid rfl⟩
  rw [hbase.out] at hrun9 ho9 hb9
  have HO9 := Lib.hid ho9
  have Hb9 := Lib.hid hb9
  have hbbl : bb < base := by rw [← hbase.out]; exact HB8.out.lt
  have hl5l : l5 < base := by rw [← hbase.out]; exact HL8.out.lt
  clear ho9 hg9 hb9
  go_wp2_with (fail)
  clear hrun9 x2 xl
  go_loopw [35] (fun iv wr => ∃ (i : Nat) (dn : List IltD), i ≤ L ∧ iv = .int .i64 (i : Int) ∧ Hid (∀ r (h : r < dn.length), Ris dn[r].l (P r)) ∧ Hid (dn.length = i) ∧
    Hid (wr.ownsRow base 35 1 (.slice (some ⟨base, 0, none⟩) L L) L (dn.map IltD.v ++ List.replicate (L - i) (.slice none 0 0))) ∧ Hid (∀ d ∈ dn, OwnKZ wr base d.a d.c d.l) ∧ Below base w8 wr) (fun iv _ => L - (RowKit.intOf iv).toNat)
  case atStart => exact ⟨0, [], Nat.zero_le _, rfl, Lib.hid (fun r h => by cases h), Lib.hid rfl, HO9, Lib.hid (fun d h => by cases h), Hb9.out⟩
  case round =>
    clear HO9 Hb9
    obtain ⟨i, dn, hi, rfl, hdn, hdl, HO, HD, hbr⟩ := hrel
    obtain ⟨U, rfl⟩ : ∃ U, U = wr := ⟨_, rfl⟩
    have hbr8 : Below w8.heap.size w8 U := by rw [hbase.out]; exact hbr
    have hbU : base ≤ U.heap.size := by rw [← hbase.out]; exact hbr.size
    by_cases hlt : i < L
    · have hiI : (i : Int) < (L : Int) := by omega
      have hiI0 : (0 : Int) ≤ (i : Int) := by omega
      have hmm := @run_makeMap Try.prog
      have hba : Below U.heap.size U ((U.alloc (.map #[] 0)).alloc (.cells #[.int .i64 (i : Int)] 3)) := ((Below.refl _ U).alloc (Nat.le_refl _) _).alloc (by simp) _
      have hsa : (U.alloc (.map #[] 0)).heap.size = U.heap.size + 1 := by simp
      have hi1 := one_vs (U.alloc (.map #[] 0)) (i : Int)
      rw [hsa] at hi1
      have hnx := (SetZ.new U).kept (World.grownBy_alloc (U.alloc (.map #[] 0)) (.cells #[.int .i64 (i : Int)] 3) none) (by simp)
      have hNa := (HN8.out.below hbr8).below hba
      have hLa := (HL8.out.below hbr8 HL8.out.lt).below hba (HL8.out.below hbr8 HL8.out.lt).lt
      have HNx := Lib.hid hnx
      have Hba := Lib.hid hba
      have HNU := Lib.hid (HN8.out.below hbr8)
      have hgl : U.heap.size + 1 < ((U.alloc (.map #[] 0)).alloc (.cells #[.int .i64 (i : Int)] 3)).heap.size := by simp
      have hK : ∀ (args : Array Value) (w : World), (callFunc 62 args).run Try.prog w = .ok (.enter 62 args) w := fun args w => by kernel_rfl
      have Hrc := Lib.hid (reach_anyZ ((U.alloc (.map #[] 0)).alloc (.cells #[.int .i64 (i : Int)] 3)) 62 (.pointer (some ⟨l5, 0, none⟩)) [(i : Int)] (some ⟨U.heap.size + 1, 0, none⟩) 1 hi1 (fun _ g off e => by cases e; exact hgl) (fun x hx => by rw [List.mem_singleton] at hx; subst hx; exact wf9 (by omega))
        (StL ML L) ((List.range L).map (fun r : Nat => (r : Int))) (fun x hx => by
          obtain ⟨o, e, ho⟩ := HUp.out i hlt x hx
          exact List.mem_map.2 ⟨o, List.mem_range.2 ho, e.symm⟩) (by rw [List.length_map, List.length_range]; omega) (by simp) hK (fun W' n2 a2 c2 F O x hb hxU hxf hO hn2 hR => by
          obtain ⟨r, hr, rfl⟩ := List.mem_map.1 hxU
          exact up_any _ W' l5 _ lb L n2 (n6 + 1) (some ⟨g1, 0, none⟩) bc la lc p q _ ML B a2 c2 F O r hLa hNa (by omega) HMLb.out hfr hb (List.mem_range.1 hr) hR hO hn2))
      rw [List.length_singleton] at Hrc
      obtain ⟨nx, hnx⟩ : ∃ x, Hid (U.heap.size = x) := ⟨_, Lib.hid rfl⟩
      rw [hnx.out] at HNx Hba
      have Hnb : Hid (∀ r, r < L → p r < nx) := Lib.hid (fun r hr => by rw [← hnx.out]; exact (HNU.out.s1 r hr).lt)
      have hbn : base ≤ nx := by rw [← hnx.out]; exact hbU
      clear hba hsa hi1 hNa hLa hgl hK
      go_wp2_with (fail)
      refine Hrc.out.mono ?_
      rintro e w3 ⟨sb, ns, MM, rfl, hs3, hns, hM3, hlo3, hb3⟩
      rw [hnx.out]
      have HS3 := Lib.hid hs3
      have HM3 := Lib.hid hM3
      have HNx3 := Lib.hid (HNx.out.kept (below_grownBy hb3 none) (by simp))
      have hnxl := HNx.out.lt
      have Hb3 := Lib.hid (Hba.out.trans (hb3.mono (by rw [← hnx.out]; exact Hba.out.size)))
      have hnsb : nx < sb := by omega
      clear hs3 hM3 hb3 HNx Hba Hrc hnxl
      go_wp2_with (at_range; refine range_setZ rfl _ rfl sb ns MM rfl HS3.out ?_; intro w4 cnt4 hrg4 hg4 hs4)
      go_frame
      have hcl := rng_few hrg4 ((List.range L).map (fun r : Nat => (r : Int))) (fun x hx => by
        obtain ⟨o, e, ho⟩ := HUp.out i hlt x ((HM3.out x).1 hx)
        exact List.mem_map.2 ⟨o, List.mem_range.2 ho, e.symm⟩)
      rw [List.length_map, List.length_range] at hcl
      have HR4 := Lib.hid hrg4
      have HNx4 : Hid (SetZ w4 nx 0 (nxB MM MM (mbE MB T))) := Lib.hid ((HNx3.out.kept hg4 (by simp)).congr (fun z => (nxB_start MM (mbE MB T) z).symm))
      have hs3U := Hb3.out.size
      have Hb4 := Lib.hid (Hb3.out.trans (belowAt hg4 (B := nx) (fun i e => by cases e) (by have := HNx3.out.lt; omega)))
      obtain ⟨it, hit⟩ : ∃ q, Hid (w3.heap.size = q) := ⟨_, Lib.hid rfl⟩
      rw [hit.out] at HR4 ⊢
      have hitn : nx < it := by rw [← hit.out]; exact HNx3.out.lt
      clear hrg4 hg4 hs4 HS3 HNx3 Hb3
      go_loopw [44] (fun _ wr => ∃ (left : Int → Bool) (cnt nd : Nat), Hid (RngZ wr sb it ns MM left cnt) ∧ Hid (SetZ wr nx nd (nxB MM left (mbE MB T))) ∧ nd + cnt * 200000000 ≤ 60 * 200000000 ∧ Below nx U wr) (fun _ wr => wr.rangeLeft sb it)
      case atStart => exact ⟨MM, cnt4, 0, HR4, HNx4, by omega, Hb4.out⟩
      case round =>
        clear HR4 HNx4 Hb4 hcl
        obtain ⟨left, cnt, nd, HR, HX, hnd, hbx⟩ := hrel
        obtain ⟨U5, rfl⟩ : ∃ U, U = wr := ⟨_, rfl⟩
        have hbx2 : Below U.heap.size U U5 := by rw [hnx.out]; exact hbx
        go_wp2_with (at_next; refine next_setZ rfl _ rfl sb it ns MM left cnt rfl HR.out ?_ ?_)
        · intro hl0
          have HXe : Hid (SetZ U5 nx nd (nxB MM (fun _ => false) (mbE MB T))) := Lib.hid (HX.out.congr (fun z => by rw [show left = fun _ => false from funext hl0]))
          have HB5' := Lib.hid ((HB8.out.below hbr8 HB8.out.lt).below hbx2 (HB8.out.below hbr8 HB8.out.lt).lt)
          have HNu5 := Lib.hid ((HNu8.out.grown hbr8).grown hbx2)
          have hb85 : Below base w8 U5 := hbr.trans (hbx.mono hbn)
          have Hb85 := Lib.hid hb85
          have Hbw5 := Lib.hid (Hb8.out.trans ((show Below w8.heap.size w8 U5 from by rw [hbase.out]; exact hb85).mono Hb8.out.size))
          have HO5 := Lib.hid (World.ownsRow.kept HO.out (below_grownBy hbx2 none) (by cases e : (Value.slice (some ⟨base, 0, none⟩) L L).ownBlock <;> simp))
          have HD5 : Hid (∀ d ∈ dn, OwnKZ U5 base d.a d.c d.l) := Lib.hid (fun d hd => World.ownsRow.kept (HD.out d hd) (below_grownBy hbx2 none) (by cases e : (Value.slice d.a d.l.length d.c).ownBlock <;> simp))
          have HS0 : Hid (U5.drew.cell? ⟨bb, 0, none⟩ = some (.slice xaa L xac) ∧ U5.drew.cell? ⟨bb, 1, none⟩ = some (.slice na L nc)) := Lib.hid ⟨HB5'.out.cell 0, HB5'.out.cell 1⟩
          have Hord := Lib.hid (ordered_any nx nd _ U5.drew (show SetZ U5.drew nx nd (nxB MM (fun _ => false) (mbE MB T)) from HXe.out) (by omega))
          have hU5b : base ≤ U5.drew.heap.size := by rw [← hbase.out]; exact Hb85.out.size
          clear hl0 HX HR hbx hbx2 hb85 HO HD
          go_wp2_with (fail)
          refine wp_region_held_drew (S := fun w' => w'.cell? ⟨bb, 0, none⟩ = some (.slice xaa L xac) ∧ w'.cell? ⟨bb, 1, none⟩ = some (.slice na L nc)) (by kernel_rfl) ?_ (fun hHeld => ?_)
          · exact HS0.out
          refine wpAnyH_take (i := 0) (v := ?_) (iatLS iatZS) (by kernel_rfl) (by kernel_rfl) (by kernel_rfl) (fun _ _ _ h => h) (Or.inl ⟨by rfl, ?_⟩) (by assumption) ?_
          rotate_left
          · intro w hSw
            try dsimp only at hSw
            go_simp
            all_goals with_reducible rfl
          try simp only [Act.put, List.setIfInBounds_toArray, List.set_cons_zero, List.set_cons_succ]
          refine wpAnyH_take (i := 1) (v := ?_) (iatLS (iatSS iatZS)) (by kernel_rfl) (by kernel_rfl) (by kernel_rfl) (fun _ _ _ h => h) (Or.inl ⟨by rfl, ?_⟩) (by assumption) ?_
          rotate_left
          · intro w hSw
            try dsimp only at hSw
            go_simp
            all_goals with_reducible rfl
          try simp only [Act.put, List.setIfInBounds_toArray, List.set_cons_zero, List.set_cons_succ]
          refine wpAnyH_take (i := 2) (v := ?_) (iatLS (iatSS (iatSS iatZS))) (by kernel_rfl) (by kernel_rfl) (by kernel_rfl) (fun _ _ _ h => h) (Or.inl ⟨by rfl, ?_⟩) (by assumption) ?_
          rotate_left
          · intro w hSw
            try dsimp only at hSw
            go_simp
            all_goals with_reducible rfl
          try simp only [Act.put, List.setIfInBounds_toArray, List.set_cons_zero, List.set_cons_succ]
          refine wpAnyH_take (i := 3) (v := ?_) (iatLS (iatSS (iatSS (iatSS iatZS)))) (by kernel_rfl) (by kernel_rfl) (by kernel_rfl) (fun _ _ _ h => h) (Or.inl ⟨by rfl, ?_⟩) (by assumption) ?_
          rotate_left
          · intro w hSw
            try dsimp only at hSw
            go_simp
            all_goals with_reducible rfl
          try simp only [Act.put, List.setIfInBounds_toArray, List.set_cons_zero, List.set_cons_succ]
          refine wpAnyH_ready (rs := [4]) (by kernel_rfl) (by simp) ?_
          refine AllReadyH.cons (iatLS (iatSS (iatSS (iatSS (iatSS iatZS))))) (fun K hK => ?_) AllReadyH.nil
          go_simp
          (with_reducible refine Hord.out.mono ?_)
          rintro e6 W6 ⟨oa, oc, ol, rfl, hor, hoo, hob⟩
          have HB6 := Lib.hid ((show Blk U5.drew bb 68 [.slice xaa L xac, .slice na L nc] from HB5'.out).below hob HB5'.out.lt)
          have HNu6 := Lib.hid (((HNu5.out.grown (Below.refl _ U5).drew)).grown hob)
          have Hbw6 := Lib.hid (Hbw5.out.drew.trans (hob.mono Hbw5.out.drew.size))
          have Hb86 := Lib.hid (Hb85.out.drew.trans (hob.mono hU5b))
          have HO6 := Lib.hid (World.ownsRow.kept (show U5.drew.ownsRow base 35 1 (.slice (some ⟨base, 0, none⟩) L L) L _ from HO5.out) (below_grownBy hob none) (by cases e : (Value.slice (some ⟨base, 0, none⟩) L L).ownBlock <;> simp))
          have HD6 : Hid (∀ d ∈ dn, OwnKZ W6 base d.a d.c d.l) := Lib.hid (fun d hd => World.ownsRow.kept (show OwnKZ U5.drew base d.a d.c d.l from HD5.out d hd) (below_grownBy hob none) (by cases e : (Value.slice d.a d.l.length d.c).ownBlock <;> simp))
          have HS6 : Hid (W6.cell? ⟨bb, 0, none⟩ = some (.slice xaa L xac) ∧ W6.cell? ⟨bb, 1, none⟩ = some (.slice na L nc)) := Lib.hid ⟨HB6.out.cell 0, HB6.out.cell 1⟩
          have hoi : Ints W6 oa oc ol := hoo.vs
          have hob2 : ∀ x ∈ ol, -(L : Int) ≤ x ∧ x ≤ 60 := fun x hx => by
            obtain ⟨o, _, _, h3⟩ := nxB_iff.1 ((hor.mem x).1 hx)
            exact HMBb.out o x h3
          have holl := ris_len hor (nearU L) (fun x hx => nearU_mem.2 (by have := hob2 x ((hor.mem x).2 hx); omega))
          have hnl : (nearU L).length = 300 := by unfold nearU; rw [List.length_map, List.length_range]
          rw [hnl] at holl
          have Htc := Lib.hid (Htk.out W6 Hbw6.out na nc HNu6.out ol oa oc hoi (fun x hx => by have := hob2 x hx; omega) (by omega) (fun hz g off e => by
            subst e
            exact (World.ownsRow.lt hoo g (by have := (own_typ hoo); cases off with
              | zero => rfl
              | succ n => exact absurd hoo (by intro h; rcases h.2 with ⟨e1, _⟩ | ⟨_, _, _, e1, _⟩ <;> cases e1))).2))
          have HFe : Hid (∀ t, TokP (xa.map IrD.p) NB ol t ↔ P i t) := Lib.hid (Hfol'.out i hlt ol MM HM3.out hor.mem)
          obtain ⟨OL, hOL⟩ : ∃ q, Hid (ol.length = q) := ⟨_, Lib.hid rfl⟩
          rw [hOL.out] at Htc ⊢
          clear hor hoo hob hoi hob2 holl hnl
          try dsimp only
          refine hK.out _ _ ?_ (fun hHeld => ?_)
          · exact HS6.out
          clear hK K
          try simp only [Act.put, List.setIfInBounds_toArray, List.set_cons_zero, List.set_cons_succ]
          refine wpAnyH_ready (rs := [5]) (by kernel_rfl) (by simp) ?_
          refine AllReadyH.cons (iatLS (iatSS (iatSS (iatSS (iatSS (iatSS iatZS)))))) (fun K hK => ?_) AllReadyH.nil
          go_simp
          (with_reducible refine Htc.out.mono ?_)
          rintro e8 W8 ⟨ra, rc, l, rfl, hr8, ho8, hb8⟩
          have HR8 : Hid (Ris l (P i)) := Lib.hid ⟨hr8.up, fun x => (hr8.mem x).trans (HFe.out x)⟩
          have HB8w := Lib.hid (HB6.out.below hb8 HB6.out.lt)
          have HS8w : Hid (W8.cell? ⟨bb, 0, none⟩ = some (.slice xaa L xac) ∧ W8.cell? ⟨bb, 1, none⟩ = some (.slice na L nc)) := Lib.hid ⟨HB8w.out.cell 0, HB8w.out.cell 1⟩
          have hbV : base ≤ W6.heap.size := by rw [← hbase.out]; exact Hb86.out.size
          have HO8 := Lib.hid (World.ownsRow.kept HO6.out (below_grownBy hb8 none) (by cases e : (Value.slice (some ⟨base, 0, none⟩) L L).ownBlock <;> simp))
          have HD8 : Hid (∀ d ∈ dn, OwnKZ W8 base d.a d.c d.l) := Lib.hid (fun d hd => World.ownsRow.kept (HD6.out d hd) (below_grownBy hb8 none) (by cases e : (Value.slice d.a d.l.length d.c).ownBlock <;> simp))
          have Ho8 : Hid (OwnKZ W8 base ra rc l) := Lib.hid (own_mono ho8 hbV)
          have Hb8f := Lib.hid (Hb86.out.trans (hb8.mono hbV))
          have z0 := HO8.out.cellAt i (by omega)
          rw [List.getElem?_append_right (by rw [List.length_map, hdl.out]; exact Nat.le_refl _), List.length_map, hdl.out, Nat.sub_self, List.getElem?_replicate, if_pos (by omega)] at z0
          have zf := own_frz (j := i) HO8.out
          have zl : base < W8.heap.size := (World.ownsRow.lt HO8.out base rfl).2
          obtain ⟨hO9, hg9⟩ := HO8.out.stored i (.slice ra l.length rc)
          rw [set_fill _ _ _ L i (by rw [List.length_map, hdl.out]) hlt] at hO9
          have hne : ∀ (a : Option Addr) (c : Nat) (m : List Int), OwnKZ W8 base a c m → (Value.slice a m.length c).ownBlock ≠ some base := fun a c m h => own_ne_ty h (own_typ HO8.out base rfl).2.choose_spec (by decide)
          have HO9 : Hid ((W8.setCell ⟨base, i, none⟩ (.slice ra l.length rc)).ownsRow base 35 1 (.slice (some ⟨base, 0, none⟩) L L) L ((dn ++ [(⟨l, ra, rc⟩ : IltD)]).map IltD.v ++ List.replicate (L - (i + 1)) (.slice none 0 0))) := Lib.hid (by rw [List.map_append]; exact hO9)
          have HD9 : Hid (∀ d ∈ dn ++ [(⟨l, ra, rc⟩ : IltD)], OwnKZ (W8.setCell ⟨base, i, none⟩ (.slice ra l.length rc)) base d.a d.c d.l) := Lib.hid (fun d hd => (List.mem_append.1 hd).elim (fun h => World.ownsRow.kept (HD8.out d h) hg9 (.inr (hne _ _ _ (HD8.out d h)))) (fun h => by rw [List.mem_singleton] at h; subst h; exact World.ownsRow.kept Ho8.out hg9 (.inr (hne _ _ _ Ho8.out))))
          have HP9 : Hid (∀ r (h : r < (dn ++ [(⟨l, ra, rc⟩ : IltD)]).length), Ris (dn ++ [(⟨l, ra, rc⟩ : IltD)])[r].l (P r)) := Lib.hid (fun r h => by
            by_cases hr : r < dn.length
            · rw [List.getElem_append_left hr]; exact hdn.out r hr
            · have e9 : r = dn.length := by rw [List.length_append] at h; simp at h; omega
              subst e9
              rw [List.getElem_append_right (Nat.le_refl _)]
              simp only [Nat.sub_self, List.getElem_cons_zero]
              rw [hdl.out]; exact HR8.out)
          have HL9 : Hid ((dn ++ [(⟨l, ra, rc⟩ : IltD)]).length = i + 1) := Lib.hid (by rw [List.length_append, hdl.out]; rfl)
          have Hb9 := Lib.hid (Hb8f.out.setCell (p := ⟨base, i, none⟩) (Nat.le_refl _) (.slice ra l.length rc))
          have HB9 := Lib.hid (HB8w.out.setOther (b' := base) (j := i) (by omega) (.slice ra l.length rc))
          clear hr8 ho8 hb8 hO9 hg9 hne
          obtain ⟨RL, hRL⟩ : ∃ q, Hid (l.length = q) := ⟨_, Lib.hid rfl⟩
          rw [hRL.out] at HO9 HD9 Hb9 HB9 ⊢
          try dsimp only
          refine hK.out _ _ ?_ (fun hHeld => ?_)
          · exact HS8w.out
          clear hK K
          try simp only [Act.put, List.setIfInBounds_toArray, List.set_cons_zero, List.set_cons_succ]
          refine wpAnyH_take (i := 6) (v := ?_) (iatLS (iatSS (iatSS (iatSS (iatSS (iatSS (iatSS iatZS))))))) (by kernel_rfl) (by kernel_rfl) (by kernel_rfl) (fun _ _ _ h => h) (Or.inl ⟨by rfl, ?_⟩) (by assumption) ?_
          rotate_left
          · intro w hSw
            try dsimp only at hSw
            go_simp
            all_goals with_reducible rfl
          try simp only [Act.put, List.setIfInBounds_toArray, List.set_cons_zero, List.set_cons_succ]
          refine wpAnyH_ready (rs := [7]) (by kernel_rfl) (by simp) ?_
          refine AllReadyH.cons (iatLS (iatSS (iatSS (iatSS (iatSS (iatSS (iatSS (iatSS iatZS)))))))) (fun K hK => ?_) AllReadyH.nil
          go_simp
          generalize hW : World.setCell W8 _ _ = W9 at HO9 HD9 Hb9 HB9 ⊢
          clear hW z0 zf zl
          refine hK.out _ _ ?_ (fun hHeld => ?_)
          · exact ⟨HB9.out.cell 0, HB9.out.cell 1⟩
          clear hK K
          try simp only [Act.put, List.setIfInBounds_toArray, List.set_cons_zero, List.set_cons_succ]
          refine wpAnyH_done (by kernel_rfl) ?_ _
          go_wp2_with (fail)
          exact ⟨⟨i + 1, _, by omega, by go_num, HP9, HL9, HO9, HD9, Hb9.out⟩, by simp [RowKit.intOf]; omega⟩
        · intro x w10 cnt6 hwf hlx hMx hrg6 hlt6 hg6 hs6 hen6
          obtain ⟨o, rfl, hol⟩ := HUp.out i hlt x ((HM3.out x).1 hMx)
          have hN6 := HNU.out.below (show Below U.heap.size U U5 from hbx2)
          have hgN := belowAt hg6 (B := nx) (fun j e => by injection e with e; omega) (by have := HX.out.lt; omega)
          have hbx6 := hbx.trans hgN
          have hN7 := HNU.out.below (show Below U.heap.size U w10 from by rw [hnx.out]; exact hbx6)
          obtain ⟨g2, hg2, hc2⟩ := row_at hN7.r1 hol
          have hc2l := World.block_lt_of_cell? _ _ hc2
          injection hg2 with hg2
          injection hg2 with hg2
          subst hg2
          have hX6 := HX.out.kept hg6 (fun e => by injection e with e; omega)
          have Hcp := Lib.hid (copyZ_any nx (p o) nd (n6 + 1) _ _ w10 hX6 (hN7.s1 o hol) (fun e => by have := Hnb.out o hol; omega) (by omega))
          have hpo := Hnb.out o hol
          obtain ⟨po, hpoe⟩ : ∃ x, Hid (p o = x) := ⟨_, Lib.hid rfl⟩
          rw [hpoe.out] at hc2 Hcp hpo
          have Hst : Hid (∀ W, SetZ W nx (nd + (n6 + 1)) (fun z => nxB MM left (mbE MB T) z || mbE MB T o z) → SetZ W nx (nd + (n6 + 1)) (nxB MM (fun y => left y && !decide (y = (o : Int))) (mbE MB T))) := Lib.hid (fun W h => h.congr (fun z => (nxB_step hMx z).symm))
          have HR6 := Lib.hid hrg6
          have Hb6 := Lib.hid hbx6
          have Hl := Lib.hid (HR.out.left_eq)
          have hoI : (o : Int) < (L : Int) := by omega
          have hoI0 : (0 : Int) ≤ (o : Int) := by omega
          have Hlt6 := Lib.hid hlt6
          clear hN6 hgN hbx6 hN7 hX6 hrg6 hg6 hs6 hMx hlx hbx hbx2
          go_wp2_with (fail)
          refine Hcp.out.mono ?_
          rintro e w11 ⟨rfl, hs11, hg11⟩
          have HX11 := Lib.hid (Hst.out w11 hs11)
          have HR11 := Lib.hid (HR6.out.kept hg11 (by intro e; injection e with e; omega) (by intro e; injection e with e; omega))
          have Hb11 := Lib.hid (Hb6.out.trans (belowAt hg11 (B := nx) (fun j e => by injection e with e; omega) (by have := Hb6.out.size; have := hnx.out; omega)))
          have Hlt : Hid (w11.rangeLeft sb it < U5.rangeLeft sb it) := Lib.hid (by rw [HR11.out.left_eq, Hl.out]; exact Hlt6.out)
          have hnd2 : nd + (n6 + 1) + cnt6 * 200000000 ≤ 60 * 200000000 := by have := Hlt6.out; omega
          clear hs11 hg11 hc2 hc2l
          go_wp2_with (fail)
          exact ⟨⟨_, cnt6, nd + (n6 + 1), HR11, HX11, hnd2, Hb11.out⟩, Hlt.out⟩
    · have hie : i = L := by omega
      have hiI : ¬ (i : Int) < (L : Int) := by omega
      have Hfin : Hid (Q (.returned (.slice (some ⟨base, 0, none⟩) L L)) U) := Lib.hid (by
        rw [← HQ.out]
        have ho := HO.out
        rw [hie, Nat.sub_self, List.replicate_zero, List.append_nil] at ho
        refine ⟨some ⟨base, 0, none⟩, L, dn, rfl, by rw [hdl.out, hie], ⟨own_vals ho (by rw [List.length_map, hdl.out, hie]), fun d hd => (HD.out d hd).vs⟩, hdn.out, Hb8.out.trans (hbr8.mono Hb8.out.size)⟩)
      clear hie hbr8 hbr
      go_wp2_with (fail)
      first | exact Hfin.out | exact bodyPost_ret (v := .slice (some ⟨base, 0, none⟩) L L) (by simp [results, Try.results21, go_sem]; try first | rfl | assumption | omega) rfl Hfin.out
end Go.Proofs.Ytldmgifphkpdlaa

namespace Go.Proofs.Ytldmgifphkpdlaa
open Go.RowKit Go.Maps

attribute [local go_sem] Oper.semAt_some

/-- What is made one behind the other. -/
def allocs (w : World) : List Obj → World
  | [] => w
  | o :: os => allocs (w.alloc o) os
theorem allocs_below : ∀ (os : List Obj) (w : World), Below w.heap.size w (allocs w os)
  | [], w => Below.refl _ w
  | o :: os, w => (up1 w o).trans ((allocs_below os (w.alloc o)).mono (by simp))
theorem allocs_at : ∀ (os : List Obj) (w : World) (i : Nat) (o : Obj), os[i]? = some o → (allocs w os).heap[w.heap.size + i]? = some o
  | [], w, i, o, h => by cases h
  | p :: os, w, 0, o, h => by
    have e : p = o := by simpa using h
    subst e
    have := (allocs_below os (w.alloc p)).block w.heap.size (by simp)
    rw [Nat.add_zero]
    show (allocs (w.alloc p) os).heap[w.heap.size]? = some p
    rw [this]
    exact World.alloc_heap_new w p
  | p :: os, w, i + 1, o, h => by
    have := allocs_at os (w.alloc p) i o (by simpa using h)
    rw [show (w.alloc p).heap.size + i = w.heap.size + (i + 1) by simp; omega] at this
    exact this
theorem allocs_blk (os : List Obj) (w : World) (i : Nat) (xs : List Value) (e : TypeId) (h : os[i]? = some (.cells xs.toArray e)) : Blk (allocs w os) (w.heap.size + i) e xs := allocs_at os w i _ h
theorem allocs_vs (os : List Obj) (w : World) (i : Nat) (xs : List Value) (e : TypeId) (h : os[i]? = some (.cells xs.toArray e)) (n : Nat) (hn : xs.length = n) (hm : n ≤ maxLen) : Vs (allocs w os) (some ⟨w.heap.size + i, 0, none⟩) n xs := own_vals (e := e) (base := 0) ⟨by rw [hn, Nat.mul_one], .inr ⟨w.heap.size + i, n, xs.toArray, rfl, Nat.zero_le _, allocs_blk os w i xs e h, Nat.le_refl _, hm, by simp [hn], by rw [List.take_of_length_le (by simp [hn])]⟩⟩ hn.symm
def e9Os (h : Nat) : List Obj := [.cells #[.string ⟨#[97]⟩, .string ⟨#[98]⟩] 9, .cells #[.string ⟨#[83]⟩] 9, .cells #[.int .i64 0, .int .i64 (-1), .int .i64 1] 3, .cells #[.slice (some ⟨h + 1 + 1, 0, none⟩) 3 3, .slice none 0 0] 35, .cells #[.slice (some ⟨h + 1 + 1 + 1, 0, none⟩) 2 2] 32, .cells #[.slice (some ⟨h, 0, none⟩) 2 2, .slice (some ⟨h + 1, 0, none⟩) 1 1, .slice (some ⟨h + 1 + 1 + 1 + 1, 0, none⟩) 1 1] 25, .cells #[.string ⟨#[97]⟩, .string ⟨#[99]⟩] 9, .cells #[.string ⟨#[83]⟩, .string ⟨#[65]⟩] 9, .cells #[.int .i64 (-2), .int .i64 1] 3, .cells #[.slice (some ⟨h + 1 + 1 + 1 + 1 + 1 + 1 + 1 + 1, 0, none⟩) 2 2] 35, .cells #[.int .i64 0] 3, .cells #[.slice (some ⟨h + 1 + 1 + 1 + 1 + 1 + 1 + 1 + 1 + 1 + 1, 0, none⟩) 1 1, .slice none 0 0] 35, .cells #[.slice (some ⟨h + 1 + 1 + 1 + 1 + 1 + 1 + 1 + 1 + 1, 0, none⟩) 1 1, .slice (some ⟨h + 1 + 1 + 1 + 1 + 1 + 1 + 1 + 1 + 1 + 1 + 1, 0, none⟩) 2 2] 32, .cells #[.slice (some ⟨h + 1 + 1 + 1 + 1 + 1 + 1, 0, none⟩) 2 2, .slice (some ⟨h + 1 + 1 + 1 + 1 + 1 + 1 + 1, 0, none⟩) 2 2, .slice (some ⟨h + 1 + 1 + 1 + 1 + 1 + 1 + 1 + 1 + 1 + 1 + 1 + 1, 0, none⟩) 2 2] 25, .cells #[.int .i64 (-2)] 3]
def e9CD (h : Nat) : CfD := ⟨[⟨#[97]⟩, ⟨#[98]⟩], some ⟨h, 0, none⟩, 2, [⟨#[83]⟩], some ⟨h + 1, 0, none⟩, 1, [⟨[⟨[0, -1, 1], some ⟨h + 1 + 1, 0, none⟩, 3⟩, ⟨[], none, 0⟩], some ⟨h + 1 + 1 + 1, 0, none⟩, 2⟩], some ⟨h + 1 + 1 + 1 + 1, 0, none⟩, 1⟩
def e9DD (h : Nat) : CfD := ⟨[⟨#[97]⟩, ⟨#[99]⟩], some ⟨h + 1 + 1 + 1 + 1 + 1 + 1, 0, none⟩, 2, [⟨#[83]⟩, ⟨#[65]⟩], some ⟨h + 1 + 1 + 1 + 1 + 1 + 1 + 1, 0, none⟩, 2, [⟨[⟨[-2, 1], some ⟨h + 1 + 1 + 1 + 1 + 1 + 1 + 1 + 1, 0, none⟩, 2⟩], some ⟨h + 1 + 1 + 1 + 1 + 1 + 1 + 1 + 1 + 1, 0, none⟩, 1⟩, ⟨[⟨[0], some ⟨h + 1 + 1 + 1 + 1 + 1 + 1 + 1 + 1 + 1 + 1, 0, none⟩, 1⟩, ⟨[], none, 0⟩], some ⟨h + 1 + 1 + 1 + 1 + 1 + 1 + 1 + 1 + 1 + 1 + 1, 0, none⟩, 2⟩], some ⟨h + 1 + 1 + 1 + 1 + 1 + 1 + 1 + 1 + 1 + 1 + 1 + 1, 0, none⟩, 2⟩
theorem e9_mx (n : Nat) (h : n ≤ 10) : n ≤ maxLen := by unfold maxLen; omega
set_option maxRecDepth 100000 in
theorem e9_c (w : World) : CfAt (allocs w (e9Os w.heap.size)) (e9CD w.heap.size) := by
  refine ⟨allocs_vs _ w 0 _ _ rfl 2 rfl (e9_mx 2 (by omega)), allocs_vs _ w 1 _ _ rfl 1 rfl (e9_mx 1 (by omega)), allocs_vs _ w 4 _ _ rfl 1 rfl (e9_mx 1 (by omega)), fun r hr => ?_⟩
  have hr : r = ⟨[⟨[0, -1, 1], some ⟨w.heap.size + 1 + 1, 0, none⟩, 3⟩, ⟨[], none, 0⟩], some ⟨w.heap.size + 1 + 1 + 1, 0, none⟩, 2⟩ := by simpa [e9CD] using hr
  subst hr
  refine ⟨allocs_vs _ w 3 _ _ rfl 2 rfl (e9_mx 2 (by omega)), fun d hd => ?_⟩
  have hd : d = ⟨[0, -1, 1], some ⟨w.heap.size + 1 + 1, 0, none⟩, 3⟩ ∨ d = ⟨[], none, 0⟩ := by simpa using hd
  rcases hd with rfl | rfl
  · exact allocs_vs _ w 2 _ _ rfl 3 rfl (e9_mx 3 (by omega))
  · exact Vs.nil _
set_option maxRecDepth 100000 in
theorem e9_d (w : World) : CfAt (allocs w (e9Os w.heap.size)) (e9DD w.heap.size) := by
  refine ⟨allocs_vs _ w 6 _ _ rfl 2 rfl (e9_mx 2 (by omega)), allocs_vs _ w 7 _ _ rfl 2 rfl (e9_mx 2 (by omega)), allocs_vs _ w 12 _ _ rfl 2 rfl (e9_mx 2 (by omega)), fun r hr => ?_⟩
  have hr : r = ⟨[⟨[-2, 1], some ⟨w.heap.size + 8, 0, none⟩, 2⟩], some ⟨w.heap.size + 9, 0, none⟩, 1⟩ ∨ r = ⟨[⟨[0], some ⟨w.heap.size + 10, 0, none⟩, 1⟩, ⟨[], none, 0⟩], some ⟨w.heap.size + 11, 0, none⟩, 2⟩ := by
    unfold e9DD at hr
    rcases List.mem_cons.1 hr with h | h
    · exact .inl h
    · exact .inr (List.mem_singleton.1 h)
  rcases hr with rfl | rfl
  · refine ⟨allocs_vs _ w 9 _ _ rfl 1 rfl (e9_mx 1 (by omega)), fun d hd => ?_⟩
    rw [List.mem_singleton] at hd
    subst hd
    exact allocs_vs _ w 8 _ _ rfl 2 rfl (e9_mx 2 (by omega))
  · refine ⟨allocs_vs _ w 11 _ _ rfl 2 rfl (e9_mx 2 (by omega)), fun d hd => ?_⟩
    rcases List.mem_cons.1 hd with rfl | hd
    · exact allocs_vs _ w 10 _ _ rfl 1 rfl (e9_mx 1 (by omega))
    · rw [List.mem_singleton] at hd
      subst hd
      exact Vs.nil _
theorem e9_s (w : World) : Ints (allocs w (e9Os w.heap.size)) (some ⟨w.heap.size + 14, 0, none⟩) 1 [-2] := allocs_vs _ w 14 _ _ rfl 1 rfl (e9_mx 1 (by omega))
theorem e9_bc (w : World) : Blk (allocs w (e9Os w.heap.size)) (w.heap.size + 5) 25 [.slice (e9CD w.heap.size).ta 2 2, .slice (e9CD w.heap.size).na 1 1, .slice (e9CD w.heap.size).aa 1 1] := allocs_blk _ w 5 _ _ rfl
theorem e9_bd (w : World) : Blk (allocs w (e9Os w.heap.size)) (w.heap.size + 13) 25 [.slice (e9DD w.heap.size).ta 2 2, .slice (e9DD w.heap.size).na 2 2, .slice (e9DD w.heap.size).aa 2 2] := allocs_blk _ w 13 _ _ rfl
theorem e9_fc (h : Nat) : FitC (e9CD h) := ⟨by simp [e9CD], by simp [e9CD], by simp [e9CD], by simp [e9CD], by
  unfold OkL e9CD
  simp⟩
theorem e9_fd (h : Nat) : FitC (e9DD h) := ⟨by simp [e9DD], by simp [e9DD], by simp [e9DD], by simp [e9DD], by
  unfold OkL e9DD
  simp⟩
theorem e9_pc (h : Nat) : (e9CD h).alts.map IrD.p = e9C := rfl
theorem e9_pd (h : Nat) : (e9DD h).alts.map IrD.p = e9D := rfl
theorem lit_L1 (W : World) (x : List Int) (n : Nat) (hx : x.length = n) (hn : n ≤ 10) : AltsI (allocs W [.cells (x.map (Value.int .i64)).toArray 3, .cells #[.slice (some ⟨W.heap.size, 0, none⟩) n n] 35]) (some ⟨W.heap.size + 1, 0, none⟩) 1 [⟨x, some ⟨W.heap.size, 0, none⟩, n⟩] := by
  subst hx
  refine ⟨allocs_vs _ W 1 _ _ rfl 1 rfl (e9_mx 1 (by omega)), fun d hd => ?_⟩
  rw [List.mem_singleton] at hd
  subst hd
  exact allocs_vs _ W 0 _ _ rfl x.length (by simp) (e9_mx _ hn)
theorem lit_L2 (W : World) (x y : List Int) (n m : Nat) (hx : x.length = n) (hy : y.length = m) (hn : n ≤ 10) (hm : m ≤ 10) : AltsI (allocs W [.cells (x.map (Value.int .i64)).toArray 3, .cells (y.map (Value.int .i64)).toArray 3, .cells #[.slice (some ⟨W.heap.size, 0, none⟩) n n, .slice (some ⟨W.heap.size + 1, 0, none⟩) m m] 35]) (some ⟨W.heap.size + 1 + 1, 0, none⟩) 2 [⟨x, some ⟨W.heap.size, 0, none⟩, n⟩, ⟨y, some ⟨W.heap.size + 1, 0, none⟩, m⟩] := by
  subst hx
  subst hy
  refine ⟨allocs_vs _ W 2 _ _ rfl 2 rfl (e9_mx 2 (by omega)), fun d hd => ?_⟩
  rcases List.mem_cons.1 hd with rfl | hd
  · exact allocs_vs _ W 0 _ _ rfl x.length (by simp) (e9_mx _ hn)
  · rw [List.mem_singleton] at hd
    subst hd
    exact allocs_vs _ W 1 _ _ rfl y.length (by simp) (e9_mx _ hm)
theorem lit_I (W : World) (x : List Int) (n : Nat) (hx : x.length = n) (hn : n ≤ 10) : Ints (W.alloc (.cells (x.map (Value.int .i64)).toArray 3)) (some ⟨W.heap.size, 0, none⟩) n x := by
  subst hx
  exact allocs_vs [.cells (x.map (Value.int .i64)).toArray 3] W 0 _ _ rfl x.length (by simp) (e9_mx _ hn)
/-- Lists that are told by what is in them, of one rule; of two. -/
theorem lst_1 {P : Nat → Int → Prop} {ds : List IltD} {x : List Int} (hl : ds.length = 1) (hr : ∀ r (h : r < ds.length), Ris ds[r].l (P r)) (hx : Ris x (P 0)) : ds.map (fun d => d.l) = [x] := by
  match ds, hl with
  | [d], _ =>
    have := hr 0 (by simp)
    have e : d.l = x := this.same hx (fun _ => Iff.rfl)
    rw [List.map_singleton, e]
theorem lst_2 {P : Nat → Int → Prop} {ds : List IltD} {x y : List Int} (hl : ds.length = 2) (hr : ∀ r (h : r < ds.length), Ris ds[r].l (P r)) (hx : Ris x (P 0)) (hy : Ris y (P 1)) : ds.map (fun d => d.l) = [x, y] := by
  match ds, hl with
  | [d, e], _ =>
    have h1 : d.l = x := (hr 0 (by simp)).same hx (fun _ => Iff.rfl)
    have h2 : e.l = y := (hr 1 (by simp)).same hy (fun _ => Iff.rfl)
    rw [List.map_cons, List.map_singleton, h1, h2]
end Go.Proofs.Ytldmgifphkpdlaa

