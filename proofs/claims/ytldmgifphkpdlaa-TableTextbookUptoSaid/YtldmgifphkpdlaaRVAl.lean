/- Texts joined: Of Oh Oi Je. -/
import Derived.Test.YtldmgifphkpdlaaRVAk
import Derived.Test.YtldmgifphkpdlaaRVAj
import Derived.Test.YtldmgifphkpdlaaRVAa
import Derived.Deep.LoopGhost
import Derived.Maps.RangeWalk
set_option linter.unusedVariables false
set_option linter.unusedSimpArgs false
namespace Go.Proofs.Ytldmgifphkpdlaa
open Go.RowKit Go.Maps
attribute [local go_sem] Oper.semAt_some
/-- A set, and what is in it. -/
def MadeQZ (W : World) (T : List (Wy Int)) (e : Ending) (W' : World) : Prop :=
 ∃ sb n M, e = .returned (.map (some sb)) ∧ SetZ W' sb n M ∧ n ≤ 10000000000000 ∧ (∀ x, M x = true ↔ Mk T x) ∧ W.heap.size ≤ sb ∧ Below W.heap.size W W'
theorem TakeAtZ.new (w0 W : World) : TakeAtZ w0 (((W.alloc (.map #[] 0)).alloc (.map #[] 0)).alloc (.cells #[.map (some W.heap.size), .map (some (W.heap.size + 1))] 154)) W.heap.size (W.heap.size + 2) W.heap.size (W.heap.size + 1) 0 (fun _ => false) [] (fun _ => .slice none 0 0) where
 mbx := by
  have := Blk.new ((W.alloc (.map #[] 0)).alloc (.map #[] 0)) 154 #[.map (some W.heap.size), .map (some (W.heap.size + 1))]
  rw [show ((W.alloc (.map #[] 0)).alloc (.map #[] 0)).heap.size = W.heap.size + 2 by simp] at this
  exact this
 set := ((SetZ.new W).kept (World.grownBy_alloc _ _ none) (by simp)).kept (World.grownBy_alloc _ _ none) (by simp)
 wait := by
  have := (SlcTZ.new (W.alloc (.map #[] 0))).kept (World.grownBy_alloc _ (.cells #[.map (some W.heap.size), .map (some (W.heap.size + 1))] 154) none) (by simp)
  rw [show (W.alloc (.map #[] 0)).heap.size = W.heap.size + 1 by simp] at this
  exact this
 rows := fun k _ _ => ⟨none, 0, rfl, OwnYZ.nil _ _⟩
 apart := fun j k _ _ _ _ _ g e => by cases e
 lo := ⟨by omega, by omega, by omega, by omega⟩
 nds := fun p h => by cases h
set_option maxRecDepth 100000 in
set_option maxHeartbeats 8000000 in
theorem made_anyZ (w0 W : World) (b0 : Nat) (ys : List (WyD Int)) (a : Option Addr) (c : Nat) (hrow : OwnYZ W b0 a c ys) (hnd : ∀ y ∈ ys, NdOkZ w0 y) (h0 : Below w0.heap.size w0 W) (hfew : ys.length ≤ 10000) :
 Calls Try.prog 88 #[.slice a ys.length c] W (MadeQZ W (ys.map WyD.p)) := by
 have hlm := hrow.le
 have hNew := TakeAtZ.new w0 W
 have hb2 : Below W.heap.size W (((W.alloc (.map #[] 0)).alloc (.map #[] 0)).alloc (.cells #[.map (some W.heap.size), .map (some (W.heap.size + 1))] 154)) := (((Below.refl _ W).alloc (Nat.le_refl _) _).alloc (by simp) _).alloc (by simp; omega) _
 have hmm := @run_makeMap Try.prog
 obtain ⟨R, hR⟩ : ∃ R : Nat → List (Wy Int), Hid ((fun k => (ys.take k).map WyD.p) = R) := ⟨_, Lib.hid rfl⟩
 have hR0 : Hid (R 0 = []) := Lib.hid (by rw [← hR.out]; rfl)
 have hRe : Hid (ys.map WyD.p = R ys.length) := Lib.hid (by rw [← hR.out]; show _ = (ys.take ys.length).map WyD.p; rw [List.take_length])
 have hRs : Hid (∀ k (hk : k < ys.length), R (k + 1) = R k ++ [⟨ys[k].n, ys[k].l⟩]) := Lib.hid (fun k hk => by
  rw [← hR.out]
  show (ys.take (k + 1)).map WyD.p = (ys.take k).map WyD.p ++ _
  rw [List.take_add_one, List.getElem?_eq_getElem hk, List.map_append]
  rfl)
 have hRl : Hid (∀ k, (R k).length ≤ 10000) := Lib.hid (fun k => by
  rw [← hR.out]
  show ((ys.take k).map WyD.p).length ≤ _
  simp
  omega)
 rw [hRe.out]
 obtain ⟨L, HL⟩ : ∃ L, Hid (ys.length = L) := ⟨_, Lib.hid rfl⟩
 rw [HL.out] at hlm hfew hRe ⊢
 have HI0 : Hid (MkInv (R 0) (fun _ => false) [] []) := Lib.hid (by rw [hR0.out]; exact MkInv.nil)
 have HN0 := Lib.hid hNew
 obtain ⟨base, hbase⟩ : ∃ q, Hid (W.heap.size = q) := ⟨_, Lib.hid rfl⟩
 have hbW : base ≤ W.heap.size := by rw [hbase.out]; exact Nat.le_refl _
 have Hrow := Lib.hid hrow
 have hB0 : w0.heap.size ≤ base := by rw [← hbase.out]; exact h0.size
 clear hNew hrow
 go_enter Try.func88, Try.ntmps88
 go_wp2_with (fail)
 rw [hbase.out] at HN0 hb2 ⊢
 generalize hV : World.alloc (World.alloc (World.alloc W _) _) _ = V at HN0 hb2 ⊢
 clear hV
 go_loopw [11] (fun iv wr => ∃ (k n' : Nat) (M' : Int → Bool) (P' : List (Int × WyD Int)) (f' : Int → Value), k ≤ L ∧ iv = .int .i64 (k : Int) ∧ n' ≤ k * 200000000 ∧ Hid (TakeAtZ w0 wr base (base + 2) base (base + 1) n' M' P' f') ∧ Hid (MkInv (R k) M' P' []) ∧ Below base W wr) (fun iv _ => L - (intOf iv).toNat)
 case atStart => exact ⟨0, 0, _, _, _, Nat.zero_le _, rfl, Nat.le_refl _, HN0, HI0, hb2⟩
 case round =>
  obtain ⟨k, n', M', P', f', hk, rfl, hn', HT, HI, hbr⟩ := hrel
  have hnb : n' ≤ 2000000000000 := by omega
  by_cases hlt : k < L
  ·have hkI : (k : Int) < (L : Int) := by omega
   have hkI0 : (0 : Int) ≤ (k : Int) := by omega
   have hkl : k < ys.length := by rw [HL.out]; exact hlt
   have hbr2 := hbr
   rw [← hbase.out] at hbr2
   obtain ⟨g, rfl, _, hg2, c0, c1⟩ := (OwnYZ.below Hrow.out hbr2).at k hkl
   have hm : ys[k] ∈ ys := List.getElem_mem hkl
   have hst := Lib.hid (hRs.out k hkl)
   obtain ⟨y, hy⟩ : ∃ v, Hid (ys[k] = v) := ⟨_, Lib.hid rfl⟩
   rw [hy.out] at c0 c1 hm hst
   have hN := hnd y hm
   have hgA : Below wr.heap.size wr (wr.alloc (.cells #[.int .i64 y.n, .slice y.a y.l.length y.c] 118)) := (Below.refl _ wr).alloc (Nat.le_refl _) _
   have hA := Blk.new wr 118 #[.int .i64 y.n, .slice y.a y.l.length y.c]
   have hbA : Below base W (wr.alloc (.cells #[.int .i64 y.n, .slice y.a y.l.length y.c] 118)) := hbr.trans (hgA.mono (Nat.le_trans hbW hbr.size))
   have Hc := Lib.hid (take_anyZ w0 _ base (base + 2) base (base + 1) n' M' P' f' (R k) y (HT.out.below hgA) HI.out hN (h0.trans (hbA.mono hB0)) hB0 (Nat.le_trans hbW hbA.size) (hRl.out k) (by omega))
   have HbA := Lib.hid hbA
   obtain ⟨M, HM⟩ : ∃ M, Hid (y.l.length = M) := ⟨_, Lib.hid rfl⟩
   rw [HM.out] at c1 hA Hc HbA
   have y0 := hA.cell 0
   have y1 := hA.cell 1
   have yl := hA.lt
   simp only [List.getElem?_cons_zero, List.getElem?_cons_succ] at y0 y1
   obtain ⟨T1, hT1⟩ : ∃ q, Hid (R k ++ [⟨y.n, y.l⟩] = q) := ⟨_, Lib.hid rfl⟩
   rw [hT1.out] at Hc hst
   clear hA hgA hbA hbr2 hm hN
   go_wp2_with (fail)
   refine Hc.out.mono ?_
   clear Hc
   rintro e w3 ⟨rfl, n3, M3, P3, f3, hn3, hT3, hI3, hb3⟩
   have HT3 := Lib.hid hT3
   have HI3 : Hid (MkInv (R (k + 1)) M3 P3 []) := Lib.hid (by rw [hst.out]; exact hI3)
   have Hb3 := Lib.hid (HbA.out.trans hb3)
   clear hT3 hI3 hb3
   go_wp2_with (fail)
   exact ⟨⟨k + 1, n3, M3, P3, f3, by omega, by go_num, by omega, HT3, HI3, Hb3.out⟩, by simp [intOf]; omega⟩
  ·obtain rfl : k = L := by omega
   have hkI : ¬ (k : Int) < (k : Int) := by omega
   have m0 := HT.out.mbx.cell 0
   have ml := HT.out.mbx.lt
   simp only [List.getElem?_cons_zero] at m0
   go_wp2_with (fail)
   exact bodyPost_ret (v := .map (some base)) (by simp [results, Try.results88, go_sem]; try first | rfl | assumption | omega) rfl ⟨base, n', M', rfl, HT.out.set, by omega, fun x => HI.out.done x, by rw [hbase.out]; exact Nat.le_refl _, by rw [hbase.out]; exact hbr⟩
end Go.Proofs.Ytldmgifphkpdlaa
namespace Go.Proofs.Ytldmgifphkpdlaa
open Go.RowKit Go.Maps
attribute [local go_sem] Oper.semAt_some
/-- An own row of keys. -/
abbrev OwnKZ (W : World) (base : Nat) (a : Option Addr) (cap : Nat) (l : List Int) : Prop := W.ownsRow base 3 1 (.slice a l.length cap) l.length (l.map (Value.int .i64))
theorem info_keyZ : (Try.prog.info? 3).map (fun i => (i.zero, i.size, i.bytes)) = some (some (.int .i64 0), 1, 8) := by kernel_rfl
theorem OwnKZ.le {W : World} {base cap : Nat} {a : Option Addr} {l : List Int} (h : OwnKZ W base a cap l) : l.length ≤ cap ∧ cap ≤ 9223372036854775807 := by
 rcases h.2 with ⟨e1, e2⟩ | ⟨g, cap', cur, e1, hb, hg, hle, hm, hs, ht⟩
 ·simp only [Value.slice.injEq] at e1
  omega
 ·simp only [Value.slice.injEq] at e1
  unfold maxLen at hm
  omega
theorem OwnKZ.at {W : World} {base cap : Nat} {a : Option Addr} {l : List Int} (h : OwnKZ W base a cap l) (i : Nat) (hi : i < l.length) :
 ∃ g, a = some ⟨g, 0, none⟩ ∧ base ≤ g ∧ g < W.heap.size ∧ W.cell? ⟨g, i, none⟩ = some (.int .i64 l[i]) := by
 rcases h.2 with ⟨_, e2⟩ | ⟨g, cap', cur, e1, hb, hg, hle, hm, hs, ht⟩
 ·omega
 ·simp only [Value.slice.injEq] at e1
  obtain ⟨rfl, -, rfl⟩ := e1
  have h1 := h.cellAt i (by omega)
  exact ⟨g, rfl, hb, (Array.getElem?_eq_some_iff.1 hg).1, by rw [h1, List.getElem?_map, List.getElem?_eq_getElem hi]; rfl⟩
theorem OwnKZ.pop {W : World} {base cap : Nat} {a : Option Addr} {l : List Int} {x : Int} (h : OwnKZ W base a cap (l ++ [x])) : OwnKZ W base a cap l := by
 rcases h.2 with ⟨_, e2⟩ | ⟨g, cap', cur, e1, hb, hg, hle, hm, hs, ht⟩
 ·simp at e2
 ·simp only [Value.slice.injEq] at e1
  obtain ⟨rfl, -, rfl⟩ := e1
  refine ⟨by simp, .inr ⟨g, cap, cur, rfl, hb, hg, by simp at hle; omega, hm, hs, ?_⟩⟩
  have h2 := congrArg (List.take (l.length * 1)) ht
  rw [List.take_take, Nat.min_eq_left (by simp), List.map_append, List.take_append_of_le_length (by simp), List.take_of_length_le (l := l.map (Value.int .i64)) (by simp)] at h2
  exact h2
theorem OwnKZ.nil (W : World) (base : Nat) : OwnKZ W base none 0 [] := World.ownsRow_nil W base _ 1
theorem OwnKZ.kept {w w' : World} {base cap : Nat} {a : Option Addr} {l : List Int} {row : Option Nat} (h : OwnKZ w base a cap l) (hg : w.grownBy w' row) (hr : ∀ g, row = some g → (Value.slice a l.length cap).ownBlock ≠ some g) : OwnKZ w' base a cap l := by
 refine World.ownsRow.kept h hg ?_
 cases e : (Value.slice a l.length cap).ownBlock with
 | none => exact .inl rfl
 | some g => exact .inr (fun e2 => hr g e2.symm e)
/-- A key is put onto an own row; where the row lies then. -/
theorem OwnKZ.push {w : World} {base cap : Nat} {a : Option Addr} {l : List Int} (h : OwnKZ w base a cap l) (x : Int) (ty : TypeId) (hn : l.length + 1 ≤ 1000000000) (hb : base ≤ w.heap.size) :
 ∃ a' c' w', (Builtin.append_ #[35, 35] ty #[.slice a l.length cap, .slice (some ⟨w.heap.size, 0, none⟩) 1 1]).run Try.prog (w.alloc (.cells #[.int .i64 x] 3)) = .ok (.slice a' (l.length + 1) c') w' ∧
  OwnKZ w' base a' c' (l ++ [x]) ∧ w.grownBy w' (Value.slice a l.length cap).ownBlock ∧ (∀ g, (Value.slice a' (l ++ [x]).length c').ownBlock = some g → (Value.slice a l.length cap).ownBlock = some g ∨ w.heap.size ≤ g) := by
 obtain ⟨i0, hi, hz0, hz1, hz2⟩ := info_parts info_keyZ
 have hnew : ∀ j u, [(.int .i64 x : Value)][j]? = some u → (w.alloc (.cells #[.int .i64 x] 3)).cell? ((⟨w.heap.size, 0, none⟩ : Addr).add j) = some u := cell_one_new w (.int .i64 x) _
 obtain ⟨v', w', hrun, ho, hg, _, hw⟩ := run_append_own_at (P := Try.prog) (w := w.alloc (.cells #[.int .i64 x] 3)) base 35 ty 3 i0 _ 1 8 Try.underlying35 hi hz0 hz1 hz2 rfl (by decide) _ _ _ (h.alloc _) ⟨w.heap.size, 0, none⟩ 1 1 [.int .i64 x] rfl hnew (fun u hu => by
  simp only [List.mem_cons, List.not_mem_nil, or_false] at hu
  subst hu
  rfl) (by unfold maxLen; omega) (by omega) (by simp; omega)
 obtain ⟨a', cap', rfl⟩ := slice_of_own ho
 refine ⟨a', cap', w', hrun, ?_, grownBy_trans (World.grownBy_alloc w _ _) hg (fun i e => .inl e), fun g e => ?_⟩
 ·unfold OwnKZ
  rw [List.map_append, List.length_append]
  simpa using ho
 ·have e2 : (Value.slice a' (l.length + 1) cap').ownBlock = some g := by simpa using e
  rcases hw with hw | hw
  ·exact .inl (by rw [← hw]; exact e2)
  ·rw [hw] at e2
   have := Option.some.inj e2
   exact .inr (by rw [← this]; simp)
theorem OwnKZ.vs {W : World} {base cap : Nat} {a : Option Addr} {l : List Int} (h : OwnKZ W base a cap l) : Vs W a cap (l.map (Value.int .i64)) where
 le := by rw [List.length_map]; exact h.le.1
 max := h.le.2
 nil_ := fun e => by
  subst e
  rcases h.2 with ⟨e1, e2⟩ | ⟨g, cap', cur, e1, _⟩
  ·simp only [Value.slice.injEq] at e1
   exact e1.2.2
  ·cases e1
 at_ := fun i hi => by
  obtain ⟨g, e, _⟩ := h.at i (by simpa using hi)
  exact ⟨g, 0, e⟩
 cell := fun b off e i hi => by
  obtain ⟨g, e2, _, _, h4⟩ := h.at i (by simpa using hi)
  rw [e2] at e
  cases e
  rw [Nat.zero_add, h4, List.getElem_map]
/-- Where Reach keeps what it has found (the set b in the variable sb), and what of it lies open (the variable ob). -/
structure RchAtZ (W : World) (base ob sb b n : Nat) (a : Option Addr) (c : Nat) (F O : List Int) : Prop where
 obx : Blk W ob 35 [.slice a O.length c]
 sbx : Blk W sb 79 [.map (some b)]
 set : SetZ W b n (fun x => memK x F)
 own : OwnKZ W base a c O
 lo : base ≤ ob ∧ base ≤ sb ∧ base ≤ b
 fits : ∀ x ∈ F, (Go.Lit.int .i64 x).wf = true
section
variable {W W' : World} {base ob sb b n : Nat} {a : Option Addr} {c : Nat} {F O : List Int} {row : Option Nat}
theorem RchAtZ.blk_ne (h : RchAtZ W base ob sb b n a c F O) {g t : Nat} {cs : List Value} (hk : Blk W g t cs) : g ≠ b := by
 obtain ⟨es, k, h1⟩ := h.set.obj
 unfold Blk at hk
 intro e
 subst e
 rw [h1] at hk
 cases hk
theorem RchAtZ.row_ne (h : RchAtZ W base ob sb b n a c F O) {b2 c2 : Nat} {a2 : Option Addr} {l : List Int} (ho : OwnKZ W b2 a2 c2 l) : ∀ g, (Value.slice a2 l.length c2).ownBlock = some g → g ≠ ob ∧ g ≠ sb ∧ g ≠ b := by
 intro g e
 refine ⟨fun e2 => own_ne_ty ho h.obx (by decide) (by rw [e, e2]), fun e2 => own_ne_ty ho h.sbx (by decide) (by rw [e, e2]), fun e2 => ?_⟩
 obtain ⟨_, cur, hk⟩ := own_typ ho g e
 obtain ⟨es, k, h1⟩ := h.set.obj
 rw [e2, h1] at hk
 cases hk
theorem RchAtZ.kept (h : RchAtZ W base ob sb b n a c F O) (hg : W.grownBy W' row) (hr : ∀ g, row = some g → g ≠ ob ∧ g ≠ sb ∧ g ≠ b ∧ (Value.slice a O.length c).ownBlock ≠ some g) : RchAtZ W' base ob sb b n a c F O :=
 ⟨h.obx.kept hg (fun e => (hr ob e.symm).1 rfl), h.sbx.kept hg (fun e => (hr sb e.symm).2.1 rfl), h.set.kept hg (fun e => (hr b e.symm).2.2.1 rfl), h.own.kept hg (fun g e => (hr g e).2.2.2), h.lo, h.fits⟩
theorem RchAtZ.below (h : RchAtZ W base ob sb b n a c F O) (hb : Below W.heap.size W W') : RchAtZ W' base ob sb b n a c F O := h.kept (below_grownBy hb none) (fun g e => by cases e)
end
/-- Keys lie apart from what adding turns. -/
def ApLZ (W : World) (la : Option Addr) (ob b : Nat) (a : Option Addr) (n c : Nat) : Prop := ∀ g off, la = some ⟨g, off, none⟩ → g ≠ ob ∧ g ≠ b ∧ g < W.heap.size ∧ (Value.slice a n c).ownBlock ≠ some g
/-- What adding leaves. -/
def AddQZ (W : World) (base ob sb b n : Nat) (F O l : List Int) (e : Ending) (W' : World) : Prop :=
 e = .returned (.tuple #[]) ∧ ∃ n' a' c', n' ≤ n + l.length ∧ RchAtZ W' base ob sb b n' a' c' (adsR l (F, O)).1 (adsR l (F, O)).2 ∧ Below base W W'
set_option maxRecDepth 100000 in
set_option maxHeartbeats 8000000 in
theorem addR_anyZ (W : World) (base ob sb b n : Nat) (a : Option Addr) (c : Nat) (F O l : List Int) (la : Option Addr) (lc : Nat) (h : RchAtZ W base ob sb b n a c F O) (hl : Vs W la lc (l.map (Value.int .i64))) (hap : ApLZ W la ob b a O.length c) (hfit : ∀ x ∈ l, (Go.Lit.int .i64 x).wf = true)
 (hL : O.length + l.length ≤ 1000000) (hn : n ≤ 100000000000000000) (hb : base ≤ W.heap.size) :
 Calls Try.prog 97 #[.slice la l.length lc, .pointer (some ⟨sb, 0, none⟩), .pointer (some ⟨ob, 0, none⟩)] W (AddQZ W base ob sb b n F O l) := by
 have hlm : l.length ≤ lc ∧ lc ≤ 9223372036854775807 := ⟨by have := hl.le; rwa [List.length_map] at this, hl.max⟩
 obtain ⟨R, hR⟩ : ∃ R : Nat → List Int × List Int, Hid ((fun k => adsR (l.take k) (F, O)) = R) := ⟨_, Lib.hid rfl⟩
 have hR0 : Hid (R 0 = (F, O)) := Lib.hid (by rw [← hR.out]; rfl)
 have hRe : Hid (adsR l (F, O) = R l.length) := Lib.hid (by rw [← hR.out]; show _ = adsR (l.take l.length) (F, O); rw [List.take_length])
 have hRs : Hid (∀ k (hk : k < l.length), R (k + 1) = adR (R k) l[k]) := Lib.hid (fun k hk => by rw [← hR.out]; exact ads_take l (F, O) k hk)
 have hRl : Hid (∀ k, k ≤ l.length → (R k).2.length ≤ 1000000) := Lib.hid (fun k hk => by
  rw [← hR.out]
  obtain ⟨t, h1, h2, h3⟩ := ads_pre (l.take k) (F, O)
  show (adsR (l.take k) (F, O)).2.length ≤ _
  have h4 := nodupLe t (l.take k) h2 (fun x hx => (h3 x hx).2)
  rw [h1]
  simp at h4 ⊢
  omega)
 obtain ⟨Q, hQ⟩ : ∃ Q, Hid (AddQZ W base ob sb b n F O l = Q) := ⟨_, Lib.hid rfl⟩
 rw [hQ.out]
 obtain ⟨L, HL⟩ : ∃ L, Hid (l.length = L) := ⟨_, Lib.hid rfl⟩
 rw [HL.out] at hlm hL hRl ⊢
 have HA0 : Hid (RchAtZ W base ob sb b n a c (R 0).1 (R 0).2) := Lib.hid (by rw [hR0.out]; exact h)
 have HP0 : Hid (ApLZ W la ob b a (R 0).2.length c) := Lib.hid (by rw [hR0.out]; exact hap)
 have HV0 := Lib.hid hl
 clear h hl hap
 go_enter Try.func97, Try.ntmps97
 go_wp2_with (fail)
 go_loopw [8] (fun iv wr => ∃ (k n' : Nat) (a' : Option Addr) (c' : Nat), k ≤ L ∧ iv = .int .i64 (k : Int) ∧ n' ≤ n + k ∧ Hid (RchAtZ wr base ob sb b n' a' c' (R k).1 (R k).2) ∧ Hid (ApLZ wr la ob b a' (R k).2.length c') ∧ Hid (Vs wr la lc (l.map (Value.int .i64))) ∧ Below base W wr) (fun iv _ => L - (intOf iv).toNat)
 case atStart => exact ⟨0, n, a, c, Nat.zero_le _, rfl, Nat.le_refl _, HA0, HP0, HV0, Below.refl _ _⟩
 case round =>
  obtain ⟨k, n', a', c', hk, rfl, hn', HA, HP, HV, hbr⟩ := hrel
  clear HA0 HP0 HV0
  by_cases hlt : k < L
  ·have hkI : (k : Int) < (L : Int) := by omega
   have hkI0 : (0 : Int) ≤ (k : Int) := by omega
   have hkl : k < l.length := by rw [HL.out]; exact hlt
   obtain ⟨g, off, hla⟩ := HV.out.at_ k (by rw [List.length_map]; exact hkl)
   have c0 := HV.out.cell g off hla k (by rw [List.length_map]; exact hkl)
   rw [List.getElem_map] at c0
   obtain ⟨p1, p2, p3, p4⟩ := HP.out g off hla
   have hx := hfit l[k] (List.getElem_mem hkl)
   have hst := hRs.out k hkl
   obtain ⟨x, hxe⟩ : ∃ v, Hid (l[k] = v) := ⟨_, Lib.hid rfl⟩
   rw [hxe.out] at c0 hx hst
   have hbl := World.block_lt_of_cell? _ _ c0
   have x0 := HA.out.sbx.cell 0
   have xl := HA.out.sbx.lt
   have o0 := HA.out.obx.cell 0
   have ol := HA.out.obx.lt
   simp only [List.getElem?_cons_zero] at x0 o0
   have Hc := Lib.hid (zAdd_any wr b n' (fun y => memK y (R k).1) x HA.out.set hx (by unfold maxLen; omega))
   have hbo := HA.out.blk_ne HA.out.obx
   have hbs := HA.out.blk_ne HA.out.sbx
   have hRk := hRl.out k (by omega)
   have hP' : Hid (∀ g2 off2, la = some ⟨g2, off2, none⟩ → g2 = g) := Lib.hid (fun g2 off2 e => by rw [hla] at e; injection e with e; injection e with e1 _; exact e1.symm)
   have Hla := Lib.hid hla
   subst hla
   -- what the set's growing keeps
   have hset : ∀ (w3 : World) (hs : SetZ w3 b (n' + 1) (fun t => decide (t = x) || memK t (R k).1)) (hg : wr.grownBy w3 (some b)), Blk w3 ob 35 [.slice a' (R k).2.length c'] ∧ Blk w3 sb 79 [.map (some b)] ∧ OwnKZ w3 base a' c' (R k).2 ∧ Vs w3 (some ⟨g, off, none⟩) lc (l.map (Value.int .i64)) := fun w3 hs hg =>
    ⟨HA.out.obx.kept hg (fun e => hbo (by injection e)), HA.out.sbx.kept hg (fun e => hbs (by injection e)), HA.out.own.kept hg (fun g2 e e2 => (HA.out.row_ne HA.out.own g2 e2).2.2 (by injection e with e; exact e.symm)), ⟨HV.out.le, HV.out.max, HV.out.nil_, HV.out.at_, fun b2 o2 e i hi => by
     have := HV.out.cell b2 o2 e i hi
     have hb2 := hP'.out b2 o2 e
     rw [← this]
     unfold World.cell?
     rw [hg.block b2 (by rw [hb2]; exact p3) (fun e => p2 (by injection e with e; rw [← hb2]; exact e))]⟩⟩
   have Hset := Lib.hid hset
   have hbB : base ≤ b := HA.out.lo.2.2
   have hoB : base ≤ ob := HA.out.lo.1
   obtain ⟨q, hq⟩ : ∃ q, Hid (memK x (R k).1 = q) := ⟨_, Lib.hid rfl⟩
   try dsimp only at Hc
   rw [hq.out] at Hc
   have Hst := Lib.hid hst
   clear hst hset
   go_wp2_with (fail)
   refine Hc.out.mono ?_
   clear Hc
   rintro e w3 ⟨rfl, hs3, hg3⟩
   obtain ⟨k1, k2, k3, k4⟩ := Hset.out w3 hs3 hg3
   have HS3 := Lib.hid hs3
   have hb3 := hbr.trans (belowAt hg3 (B := base) (fun i e => by injection e with e; omega) (Nat.le_trans hb hbr.size))
   have hsz3 := hg3.size
   have HK1 := Lib.hid k1
   have HK2 := Lib.hid k2
   have HK3 := Lib.hid k3
   have HK4 := Lib.hid k4
   clear hs3 hg3 k1 k2 k3 k4
   cases q
   case true =>
    have hx2 : x ∈ (R k).1 := memK_iff.1 hq.out
    have hst2 : Hid (R (k + 1) = R k) := Lib.hid (by rw [Hst.out]; unfold adR; rw [if_pos hx2])
    have HA2 : Hid (RchAtZ w3 base ob sb b (n' + 1) a' c' (R (k + 1)).1 (R (k + 1)).2) := Lib.hid (by
     rw [hst2.out]
     exact ⟨HK1.out, HK2.out, HS3.out.congr (fun t => (memK_had hx2 t).symm), HK3.out, HA.out.lo, HA.out.fits⟩)
    have HP2 : Hid (ApLZ w3 (some ⟨g, off, none⟩) ob b a' (R (k + 1)).2.length c') := Lib.hid (by
     rw [hst2.out]
     intro g2 o2 e
     obtain ⟨r1, r2, r3, r4⟩ := HP.out g2 o2 e
     exact ⟨r1, r2, Nat.lt_of_lt_of_le r3 hsz3, r4⟩)
    clear hx2
    go_wp2_with (fail)
    exact ⟨⟨k + 1, n' + 1, a', c', by omega, by go_num, by omega, HA2, HP2, HK4, hb3⟩, by simp [intOf]; omega⟩
   case false =>
    have hx2 : x ∉ (R k).1 := memK_not.1 hq.out
    have hst2 : Hid (R (k + 1) = ((R k).1 ++ [x], (R k).2 ++ [x])) := Lib.hid (by rw [Hst.out]; unfold adR; rw [if_neg hx2])
    obtain ⟨a2, c2, w2, hrun, ho, hg4, hlies⟩ := OwnKZ.push HK3.out x 35 (by omega) (Nat.le_trans hb hb3.size)
    have hok := HK1.out.kept hg4 (fun e => own_ne_ty HK3.out HK1.out (by decide) e.symm)
    have hsk := HK2.out.kept hg4 (fun e => own_ne_ty HK3.out HK2.out (by decide) e.symm)
    have hmk := HS3.out.kept hg4 (fun e => (HA.out.row_ne HA.out.own b e.symm).2.2 rfl)
    have hne : sb ≠ ob := fun e => by
     subst e
     have h1 := HK1.out
     have h2 := HK2.out
     unfold Blk at h1 h2
     rw [h1] at h2
     cases h2
    have z0 := HK1.out.cell 0
    have zl := HK1.out.lt
    have y0 := hok.cell 0
    have yl := hok.lt
    have yf := hok.frozen 0
    simp only [List.getElem?_cons_zero] at z0 y0
    have hg5 := grownBy_set w2 ob 0 (.slice a2 ((R k).2.length + 1) c2)
    have hown : ∀ g2, (Value.slice a' (R k).2.length c').ownBlock = some g2 → base ≤ g2 := fun g2 e => (own_typ HA.out.own g2 e).1
    have Hb5 : Hid (Below base W (w2.setCell ⟨ob, 0, none⟩ (.slice a2 ((R k).2.length + 1) c2))) := Lib.hid ((hb3.trans (belowAt hg4 (B := base) (fun i e => hown i e) (Nat.le_trans hb hb3.size))).trans (belowAt hg5 (B := base) (fun i e => by injection e with e; omega) (Nat.le_trans hb (Nat.le_trans hb3.size hg4.size))))
    have HA2 : Hid (RchAtZ (w2.setCell ⟨ob, 0, none⟩ (.slice a2 ((R k).2.length + 1) c2)) base ob sb b (n' + 1) a2 c2 (R (k + 1)).1 (R (k + 1)).2) := Lib.hid (by
     rw [hst2.out]
     refine ⟨?_, hsk.setOther hne _, (hmk.kept hg5 (fun e => hbo (by injection e with e; exact e.symm))).congr (fun t => (memK_add t x _).symm), ho.kept hg5 (fun g2 e e2 => own_ne_ty ho hok (by decide) (by rw [e2]; exact e.symm)), HA.out.lo, fun y hy => ?_⟩
     ·have := hok.set 0 (.slice a2 ((R k).2.length + 1) c2)
      simpa using this
     ·rcases List.mem_append.1 hy with hy | hy
      ·exact HA.out.fits y hy
      ·rw [List.mem_singleton] at hy
       rw [hy]; exact hx)
    have HP2 : Hid (ApLZ (w2.setCell ⟨ob, 0, none⟩ (.slice a2 ((R k).2.length + 1) c2)) (some ⟨g, off, none⟩) ob b a2 (R (k + 1)).2.length c2) := Lib.hid (by
     rw [hst2.out]
     intro g2 o2 e
     obtain ⟨r1, r2, r3, r4⟩ := HP.out g2 o2 e
     refine ⟨r1, r2, Nat.lt_of_lt_of_le r3 (Nat.le_trans hsz3 (Nat.le_trans hg4.size hg5.size)), fun e2 => ?_⟩
     rcases hlies g2 e2 with h1 | h1
     ·exact r4 h1
     ·omega)
    have HV2 : Hid (Vs (w2.setCell ⟨ob, 0, none⟩ (.slice a2 ((R k).2.length + 1) c2)) (some ⟨g, off, none⟩) lc (l.map (Value.int .i64))) := Lib.hid ⟨HK4.out.le, HK4.out.max, HK4.out.nil_, HK4.out.at_, fun b2 o2 e i hi => by
     have h1 := HK4.out.cell b2 o2 e i hi
     have hb2 := hP'.out b2 o2 e
     rw [← h1]
     unfold World.cell?
     have hlt3 : b2 < w3.heap.size := by rw [hb2]; omega
     rw [hg5.block b2 (Nat.lt_of_lt_of_le hlt3 hg4.size) (fun e => p1 (by injection e with e; rw [← hb2]; exact e)), hg4.block b2 hlt3 (fun e => p4 (by rw [← hb2]; exact e.symm))]⟩
    have Hrun := Lib.hid hrun
    obtain ⟨LL, hLe⟩ : ∃ q, Hid ((R k).2.length = q) := ⟨_, Lib.hid rfl⟩
    rw [hLe.out] at Hrun hg5 HA2 HP2 HV2 Hb5 z0 y0
    clear hrun ho hg4 hlies hok hsk hmk hg5 hx2
    go_wp2_with (at_builtin; refine wpList_append_run rfl _ _ 35 35 rfl _ _ _ _ rfl rfl Hrun.out ?_)
    exact ⟨⟨k + 1, n' + 1, a2, c2, by omega, by go_num, by omega, HA2, HP2, HV2, Hb5.out⟩, by simp [intOf]; omega⟩
  ·obtain rfl : k = L := by omega
   have hkI : ¬ (k : Int) < (k : Int) := by omega
   go_wp2_with (fail)
   exact bodyPost_end (v := .tuple #[]) (by simp [results, Try.results97, go_sem]; try rfl) rfl (by rw [← hQ.out]; exact ⟨rfl, n', a', c', by rw [HL.out]; exact hn', by rw [hRe.out, HL.out]; exact HA.out, hbr⟩)
set_option maxRecDepth 100000 in
theorem addNil_any (la : Option Addr) (lc sb ob : Nat) (w : World) : Calls Try.prog 97 #[.slice la 0 lc, .pointer (some ⟨sb, 0, none⟩), .pointer (some ⟨ob, 0, none⟩)] w fun e w' => e = .returned (.tuple #[]) ∧ w' = w := by
 go_enter Try.func97, Try.ntmps97
 go_wp2_with (fail)
 go_loopw [8] (fun iv wr => iv = .int .i64 0 ∧ wr = w) (fun iv _ => 0)
 case atStart => exact ⟨rfl, rfl⟩
 case round =>
  obtain ⟨rfl, hwr⟩ := hrel
  subst hwr
  go_wp2_with (fail)
  exact bodyPost_end (v := .tuple #[]) (by simp [results, Try.results97, go_sem]; try rfl) rfl ⟨rfl, rfl⟩
end Go.Proofs.Ytldmgifphkpdlaa
namespace Go.Proofs.Ytldmgifphkpdlaa
open Go.RowKit Go.Maps
attribute [local go_sem] Oper.semAt_some
/-- The closure that adds, as a value. -/
abbrev addVZ (sb ob : Nat) : Value := .func (.func 97) #[] #[.pointer (some ⟨sb, 0, none⟩), .pointer (some ⟨ob, 0, none⟩)]
/-- What adding all to which one step leads leaves. -/
def NextQZ (W : World) (base ob sb b n : Nat) (F O : List Int) (St : Int → Int → Prop) (x : Int) (e : Ending) (W' : World) : Prop :=
 e = .returned (.tuple #[]) ∧ ∃ l n' a' c', (∀ y, y ∈ l ↔ St x y) ∧ n' ≤ n + 1000000 ∧ RchAtZ W' base ob sb b n' a' c' (adsR l (F, O)).1 (adsR l (F, O)).2 ∧ Below base W W'
/-- A set, and what is in it. -/
def SetQZ (w : World) (Q : Int → Prop) (e : Ending) (W' : World) : Prop := ∃ sb n M, e = .returned (.map (some sb)) ∧ SetZ W' sb n M ∧ n ≤ 10000000000000 ∧ (∀ x, M x = true ↔ Q x) ∧ w.heap.size ≤ sb ∧ Below w.heap.size w W'
theorem RchAtZ.new (W : World) : RchAtZ (((W.alloc (.map #[] 0)).alloc (.cells #[.map (some W.heap.size)] 79)).alloc (.cells #[.slice none 0 0] 35)) W.heap.size (W.heap.size + 1 + 1) (W.heap.size + 1) W.heap.size 0 none 0 [] [] where
 obx := by
  have := Blk.new ((W.alloc (.map #[] 0)).alloc (.cells #[.map (some W.heap.size)] 79)) 35 #[.slice none 0 0]
  rw [show ((W.alloc (.map #[] 0)).alloc (.cells #[.map (some W.heap.size)] 79)).heap.size = W.heap.size + 1 + 1 by simp] at this
  exact this
 sbx := by
  have := (Blk.new (W.alloc (.map #[] 0)) 79 #[.map (some W.heap.size)]).alloc (.cells #[.slice none 0 0] 35)
  rw [show (W.alloc (.map #[] 0)).heap.size = W.heap.size + 1 by simp] at this
  exact this
 set := (((SetZ.new W).kept (World.grownBy_alloc _ _ none) (by simp)).kept (World.grownBy_alloc _ _ none) (by simp)).congr (fun t => rfl)
 own := OwnKZ.nil _ _
 lo := ⟨by omega, by omega, by omega⟩
 fits := fun x h => by cases h
/-- The last of what lies open is taken off. -/
theorem RchAtZ.pop {W : World} {base ob sb b n c : Nat} {a : Option Addr} {F O : List Int} {x : Int} (h : RchAtZ W base ob sb b n a c F (O ++ [x])) : RchAtZ (W.setCell ⟨ob, 0, none⟩ (.slice a O.length c)) base ob sb b n a c F O := by
 have hg := grownBy_set W ob 0 (.slice a O.length c)
 have hne : sb ≠ ob := fun e => by
  subst e
  have h1 := h.obx
  have h2 := h.sbx
  unfold Blk at h1 h2
  rw [h1] at h2
  cases h2
 have hbo := h.blk_ne h.obx
 refine ⟨?_, h.sbx.setOther hne _, h.set.kept hg (fun e => hbo (by injection e with e; exact e.symm)), h.own.pop.kept hg (fun g e e2 => own_ne_ty h.own h.obx (by decide) (show _ = some ob from by rw [e]; cases a <;> exact e2)), h.lo, h.fits⟩
 have := h.obx.set 0 (.slice a O.length c)
 simpa using this
set_option maxRecDepth 100000 in
set_option maxHeartbeats 8000000 in
theorem reach_anyZ (W : World) (K : FuncId) (cp : Value) (fr : List Int) (fa : Option Addr) (fc : Nat) (hfr : Vs W fa fc (fr.map (Value.int .i64))) (hfb : fr ≠ [] → ∀ g off, fa = some ⟨g, off, none⟩ → g < W.heap.size) (hff : ∀ x ∈ fr, (Go.Lit.int .i64 x).wf = true)
 (St : Int → Int → Prop) (U : List Int) (hU : ∀ x, Rchd fr St x → x ∈ U) (hUl : U.length ≤ 100000) (hfl : fr.length ≤ 100000)
 (hK : ∀ (args : Array Value) (w : World), (callFunc K args).run Try.prog w = .ok (.enter K args) w)
 (Hnext : ∀ (W' : World) (n' : Nat) (a' : Option Addr) (c' : Nat) (F O : List Int) (x : Int), Below W.heap.size W W' → x ∈ U → (Go.Lit.int .i64 x).wf = true → O.length ≤ 400000 → n' ≤ 1000000000000 →
  RchAtZ W' W.heap.size (W.heap.size + 1 + 1) (W.heap.size + 1) W.heap.size n' a' c' F O → Calls Try.prog K #[.int .i64 x, addVZ (W.heap.size + 1) (W.heap.size + 1 + 1), cp] W' (NextQZ W' W.heap.size (W.heap.size + 1 + 1) (W.heap.size + 1) W.heap.size n' F O St x)) :
 Calls Try.prog 64 #[.slice fa fr.length fc, .func (.func K) #[] #[cp]] W (SetQZ W (Rchd fr St)) := by
 have hfm : fr.length ≤ fc ∧ fc ≤ 9223372036854775807 := ⟨by have := hfr.le; rwa [List.length_map] at this, hfr.max⟩
 have hNew := RchAtZ.new W
 have hb2 : Below W.heap.size W (((W.alloc (.map #[] 0)).alloc (.cells #[.map (some W.heap.size)] 79)).alloc (.cells #[.slice none 0 0] 35)) := (((Below.refl _ W).alloc (Nat.le_refl _) _).alloc (by simp) _).alloc (by simp; omega) _
 have hmm := @run_makeMap Try.prog
 have HI0 := Lib.hid (RcInv.begin fr St)
 have Hlf := Lib.hid (HI0.out.len hU)
 have HO0 : Hid ((adsR fr ([], [])).2.length ≤ 100000) := Lib.hid (by
  obtain ⟨t, h1, h2, h3⟩ := ads_pre fr ([], [])
  have h4 := nodupLe t fr h2 (fun x hx => (h3 x hx).2)
  rw [h1]
  simp at h4 ⊢
  omega)
 have Hadd : Hid (Calls Try.prog 97 #[.slice fa fr.length fc, .pointer (some ⟨W.heap.size + 1, 0, none⟩), .pointer (some ⟨W.heap.size + 1 + 1, 0, none⟩)] (((W.alloc (.map #[] 0)).alloc (.cells #[.map (some W.heap.size)] 79)).alloc (.cells #[.slice none 0 0] 35)) (AddQZ (((W.alloc (.map #[] 0)).alloc (.cells #[.map (some W.heap.size)] 79)).alloc (.cells #[.slice none 0 0] 35)) W.heap.size (W.heap.size + 1 + 1) (W.heap.size + 1) W.heap.size 0 [] [] fr)) := Lib.hid (by
  by_cases hz : fr = []
  ·subst hz
   refine (addNil_any fa fc _ _ _).mono ?_
   rintro e w4 ⟨rfl, rfl⟩
   exact ⟨rfl, 0, none, 0, Nat.le_refl _, hNew, Below.refl _ _⟩
  ·exact addR_anyZ _ W.heap.size (W.heap.size + 1 + 1) (W.heap.size + 1) W.heap.size 0 none 0 [] [] fr fa fc hNew (hfr.grown hb2) (fun g off e => by
    have h1 := hfb hz g off e
    exact ⟨by omega, by omega, Nat.lt_of_lt_of_le h1 hb2.size, by simp [Value.ownBlock]⟩) hff (by simp; omega) (by omega) hb2.size)
 have Hb2 := Lib.hid hb2
 obtain ⟨Q, hQ⟩ : ∃ Q, Hid (SetQZ W (Rchd fr St) = Q) := ⟨_, Lib.hid rfl⟩
 rw [hQ.out]
 obtain ⟨base, hbase⟩ : ∃ q, Hid (W.heap.size = q) := ⟨_, Lib.hid rfl⟩
 have hbW : base ≤ W.heap.size := by rw [hbase.out]; exact Nat.le_refl _
 obtain ⟨Fl, hFl⟩ : ∃ q, Hid (fr.length = q) := ⟨_, Lib.hid rfl⟩
 rw [hFl.out] at hfm hfl Hadd ⊢
 rw [hbase.out] at Hnext
 have HN := Lib.hid Hnext
 clear Hnext hNew hb2 hfr hfb hff
 go_enter Try.func64, Try.ntmps64
 go_wp2_with (fail)
 rw [hbase.out] at Hadd Hb2 ⊢
 generalize hV : World.alloc (World.alloc (World.alloc W _) _) _ = V at Hadd Hb2 ⊢
 clear hV
 refine Hadd.out.mono ?_
 clear Hadd
 rintro e w1 ⟨rfl, n1, a1, c1, hn1, hR1, hb1⟩
 have HR1 := Lib.hid hR1
 have Hb1 := Lib.hid (Hb2.out.trans hb1)
 rw [hFl.out] at hn1
 clear hR1 hb1 Hb2
 obtain ⟨FO, hFO⟩ : ∃ q, Hid (adsR fr ([], []) = q) := ⟨_, Lib.hid rfl⟩
 rw [hFO.out] at HR1 HI0 Hlf HO0
 obtain ⟨F0, O0⟩ := FO
 dsimp only at HR1 HI0 Hlf HO0
 obtain ⟨g0, hg0⟩ : ∃ q, Hid (leftR U.length F0.length O0.length = q) := ⟨_, Lib.hid rfl⟩
 have hg0b : g0 ≤ 300000 := by
  rw [← hg0.out]
  unfold leftR
  have := HO0.out
  omega
 go_wp2_with (fail)
 go_loopg [] g0 (fun gk wr => ∃ (F O : List Int) (n' : Nat) (a' : Option Addr) (c' : Nat), Hid (gk = leftR U.length F.length O.length) ∧ n' + 1000000 * gk ≤ 400000000000 ∧ gk ≤ 300000 ∧ Hid (RchAtZ wr base (base + 1 + 1) (base + 1) base n' a' c' F O) ∧ Hid (RcInv fr St F O) ∧ Hid (Below base W wr))
 case atStart => exact ⟨F0, O0, n1, a1, c1, Lib.hid hg0.out.symm, by omega, hg0b, HR1, HI0, Hb1⟩
 case round =>
  obtain ⟨F, O, n', a', c', hgk, hnk, hgb, HR, HI, HB⟩ := hrel
  clear HR1 HI0 Hb1 HO0 Hlf hg0
  have o0 := HR.out.obx.cell 0
  have ol := HR.out.obx.lt
  have s0 := HR.out.sbx.cell 0
  have sl := HR.out.sbx.lt
  have of_ := HR.out.obx.frozen 0
  simp only [List.getElem?_cons_zero] at o0 s0
  rcases cons_lastR O with rfl | ⟨O, x, rfl⟩
  ·have o1 : wr.cell? ⟨base + 1 + 1, 0, none⟩ = some (.slice a' 0 c') := o0
   clear o0
   go_wp2_with (fail)
   show Q (.returned (.map (some base))) wr
   rw [← hQ.out]
   exact ⟨base, n', fun x => memK x F, rfl, HR.out.set, by omega, fun x => memK_iff.trans (HI.out.done x), by rw [hbase.out]; exact Nat.le_refl _, by rw [hbase.out]; exact HB.out⟩
  ·obtain ⟨g, rfl, hg1, hg2, c0⟩ := HR.out.own.at O.length (by simp)
   have hcap := HR.out.own.le
   have hxF : x ∈ F := HI.out.opened x (by simp)
   have hxU := hU x (HI.out.sound x hxF)
   have hxf := HR.out.fits x hxF
   have hxe : (O ++ [x])[O.length]'(by simp) = x := by simp
   rw [hxe] at c0
   have hOl : O.length ≤ 300000 := by
    have h1 := hgk.out
    unfold leftR at h1
    rw [List.length_append, List.length_singleton] at h1
    omega
   have HP := Lib.hid HR.out.pop
   have hbp : Below base W (wr.setCell ⟨base + 1 + 1, 0, none⟩ (.slice (some ⟨g, 0, none⟩) O.length c')) := HB.out.trans (belowAt (grownBy_set wr (base + 1 + 1) 0 (.slice (some ⟨g, 0, none⟩) O.length c')) (fun i e => by injection e with e; omega) (Nat.le_trans hbW HB.out.size))
   have hbp2 := hbp
   rw [← hbase.out] at hbp2
   rw [hbase.out] at hbp2
   have Hc := Lib.hid (HN.out (wr.setCell ⟨base + 1 + 1, 0, none⟩ (.slice (some ⟨g, 0, none⟩) O.length c')) n' (some ⟨g, 0, none⟩) c' F O x hbp hxU hxf (by omega) (by omega) HP.out)
   have Hbp := Lib.hid hbp
   rw [List.length_append, List.length_singleton] at hcap o0
   obtain ⟨L, hL⟩ : ∃ q, Hid (O.length = q) := ⟨_, Lib.hid rfl⟩
   rw [hL.out] at hcap c0 o0 Hc Hbp hOl HP
   have hLb : (L : Int) ≤ 300000 := by omega
   have hL0 : (0 : Int) ≤ (L : Int) := by omega
   have hLc : (L : Int) ≤ (c' : Int) := by omega
   have hLp : ((L + 1 : Nat) : Int) > 0 := by omega
   clear hxe hbp hbp2
   go_wp2_with (fail)
   refine Hc.out.mono ?_
   clear Hc
   rintro e w3 ⟨rfl, l, n3, a3, c3, hl, hn3, hR3, hb3⟩
   have HR3 := Lib.hid hR3
   have HI3 := Lib.hid (HI.out.step hl)
   have Hlt := Lib.hid (left_step HI.out hl hU)
   have Hb3 := Lib.hid (Hbp.out.trans hb3)
   clear hR3 hb3 hl
   obtain ⟨FO, hFO⟩ : ∃ q, Hid (adsR l (F, O) = q) := ⟨_, Lib.hid rfl⟩
   rw [hFO.out] at HR3 HI3 Hlt
   obtain ⟨F3, O3⟩ := FO
   dsimp only at HR3 HI3 Hlt
   rw [← hgk.out] at Hlt
   obtain ⟨g3, hg3⟩ : ∃ q, Hid (leftR U.length F3.length O3.length = q) := ⟨_, Lib.hid rfl⟩
   rw [hg3.out] at Hlt
   go_wp2_with (fail)
   go_roundg g3
   case measure => exact Hlt.out
   case rel => exact ⟨F3, O3, n3, a3, c3, Lib.hid hg3.out.symm, by have := Hlt.out; omega, by have := Hlt.out; omega, HR3, HI3, Hb3⟩
end Go.Proofs.Ytldmgifphkpdlaa
namespace Go.Proofs.Ytldmgifphkpdlaa
open Go.RowKit Go.Maps Go.WideMaps
/-- A range over a set of numbers: M what it holds, left what is still to come. -/
def RngZ (W : World) (b r n : Nat) (M left : Int → Bool) (cnt : Nat) : Prop :=
 ∃ (D : DataW Unit) (lf : Go.Lit → Bool), W.ranges Try.prog 3 unitElem b r n D lf cnt ∧ IsMap D ∧ (∀ x : Int, has D (.int .i64 x) = M x) ∧ (∀ x : Int, lf (.int .i64 x) = left x)
theorem RngZ.kept {W W' : World} {row : Option Nat} {b r n cnt : Nat} {M left : Int → Bool} (h : RngZ W b r n M left cnt) (hg : W.grownBy W' row) (hb : some b ≠ row) (hr : some r ≠ row) : RngZ W' b r n M left cnt := by
 obtain ⟨D, lf, h1, h2⟩ := h
 exact ⟨D, lf, h1.kept hg hb hr, h2⟩
theorem RngZ.left_eq {W : World} {b r n cnt : Nat} {M left : Int → Bool} (h : RngZ W b r n M left cnt) : W.rangeLeft b r = cnt := by
 obtain ⟨D, lf, h1, h2⟩ := h
 exact h1.left_eq
theorem RngZ.set {W : World} {b r n cnt : Nat} {M left : Int → Bool} (h : RngZ W b r n M left cnt) : SetZ W b n M := by
 obtain ⟨D, lf, h1, h2, h3, _⟩ := h
 exact ⟨D, h1.owns, h2, h3⟩
theorem RngZ.lt {W : World} {b r n cnt : Nat} {M left : Int → Bool} (h : RngZ W b r n M left cnt) : r < W.heap.size ∧ r ≠ b := by
 obtain ⟨D, lf, h1, _⟩ := h
 exact ⟨h1.lt, h1.ne⟩
theorem SetZ.lt {W : World} {b n : Nat} {M : Int → Bool} (h : SetZ W b n M) : b < W.heap.size := by
 obtain ⟨D, h1, _⟩ := h
 exact h1.lt
section
variable {w : World} {ops : Array Oper} {rest : List Oper} {o : Oper} {a : Act} {Q : Exit → Act → World → Prop}
set_option maxRecDepth 100000 in
theorem range_setZ (hg : o.guard = none) (m : Operand) (hop : o.op = Op.range 79 m) (b n : Nat) (M : Int → Bool) (hm : a.eval m = .map (some b)) (h : SetZ w b n M)
 (hK : ∀ w' cnt, RngZ w' b w.heap.size n M M cnt → w.grownBy w' none → w'.heap.size = w.heap.size + 1 → wpList Try.prog ops Q rest (a.put o.dst (.pointer (some ⟨w.heap.size, 0, none⟩))) w') :
 wpList Try.prog ops Q (o :: rest) a w := by
 obtain ⟨D, h1, h2, h3⟩ := h
 exact wpList_range_own w hg m 79 hop 3 86 int_law Try.underlying79 unitElem b n D hm h1 (fun w' hr hg' hs => hK w' _ ⟨D, has D, hr, h2, h3, h3⟩ hg' hs)
set_option maxRecDepth 100000 in
theorem next_setZ (hg : o.guard = none) (it : Operand) (hop : o.op = Op.next it false) (b r n : Nat) (M left : Int → Bool) (cnt : Nat) (hit : a.eval it = .pointer (some ⟨r, 0, none⟩)) (h : RngZ w b r n M left cnt)
 (hDone : (∀ x : Int, left x = false) → wpList Try.prog ops Q rest (a.put o.dst (.tuple #[.bool false])) w)
 (hMore : ∀ (x : Int) (w' : World) (cnt' : Nat), (Go.Lit.int .i64 x).wf = true → left x = true → M x = true → RngZ w' b r n M (fun z => left z && !decide (z = x)) cnt' → cnt' < cnt →
  w.grownBy w' (some r) → w'.heap.size = w.heap.size → (Instr.entry (.pointer (some ⟨r, 0, none⟩))).run Try.prog w' = .ok (.tuple #[.int .i64 x, .agg #[]]) w' → wpList Try.prog ops Q rest (a.put o.dst (.tuple #[.bool true, .int .i64 x, .agg #[]])) w') :
 wpList Try.prog ops Q (o :: rest) a w := by
 obtain ⟨D, lf, h1, h2, h3, h4⟩ := h
 refine wpList_next_ranges (α := Int) (β := Unit) w hg it hop 3 int_law unitElem (Value.int .i64) (fun _ => .agg #[]) (fun key kl hk => by obtain ⟨x, rfl, _⟩ := Maps.keyOf_int_inv Try.underlying3 hk; exact ⟨x, rfl⟩) (fun v y hv => ⟨(), (unitElem_inv hv).1⟩)
  b r n D lf cnt hit h1 (fun _ hl => hDone (fun x => by rw [← h4]; exact hl _)) (fun x c kl y w' cnt' hkey hlk hv hat hrg hlt hgr hsz hen => ?_)
 obtain ⟨x', ex, rfl, hwx⟩ := Maps.keyOf_int_inv Try.underlying3 hkey
 cases ex
 refine hMore x w' cnt' hwx (by rw [← h4]; exact hlk) (by rw [← h3]; exact has_true_of_atKey hat) ⟨D, _, hrg, h2, h3, fun z => ?_⟩ hlt hgr hsz hen
 show (lf (.int .i64 z) && !(Go.Lit.int .i64 z).sameKey (.int .i64 x)) = _
 rw [h4]
 congr 2
 simp [Go.Lit.sameKey]
end
theorem set_rng {α : Type} (n : Nat) (F : Nat → α) (r : Nat) (v : α) : ((List.range n).map F).set r v = (List.range n).map (fun s => if s = r then v else F s) := by
 apply List.ext_getElem
 ·simp
 ·intro i h1 h2
  simp only [List.getElem_set, List.getElem_map, List.getElem_range]
  by_cases e : r = i
  ·rw [if_pos e, if_pos e.symm]
  ·rw [if_neg e, if_neg (fun h => e h.symm)]
theorem rng_const {α : Type} (n : Nat) (v : α) : List.replicate n v = (List.range n).map (fun _ => v) := by
 apply List.ext_getElem
 ·simp
 ·intro i h1 h2
  simp
theorem rng_cell {α : Type} (n : Nat) (F : Nat → α) {r : Nat} (h : r < n) : ((List.range n).map F)[r]? = some (F r) := by
 rw [List.getElem?_map, List.getElem?_range h]
 rfl
end Go.Proofs.Ytldmgifphkpdlaa
