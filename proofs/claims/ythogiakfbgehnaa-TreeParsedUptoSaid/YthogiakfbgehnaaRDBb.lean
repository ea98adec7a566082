/- Texts joined: Ttb Ttc. -/
import Derived.Test.YthogiakfbgehnaaRDBa
import Derived.Test.YthogiakfbgehnaaRDAt
import Derived.Sort.LoopGhostIn
import Derived.Sort.CutIn
import Derived.Test.YthogiakfbgehnaaRDAk
import Derived.Test.YthogiakfbgehnaaRDAw
set_option linter.unusedVariables false
set_option linter.unusedSimpArgs false
namespace Go.Proofs.Ythogiakfbgehnaa
open Go.RowKit Go.Maps
attribute [local go_sem] Oper.semAt_some
/-- What lies in memory within a round. -/
structure TxL (w W2 : World) (cv : Array Value) (K nb : Nat) (nd : List Value) (bs : List UInt8) (a0 o : Nat) (wr : World) : Prop where
 mem : TxM w wr cv bs
 ah : Boxed wr (w.heap.size + 1 + 1 + 1) 3 (.int .i64 (a0 : Int))
 op : Boxed wr (w.heap.size + 1 + 1 + 1 + 1) 3 (.int .i64 (o : Int))
 blk : Blk wr nb 51 nd
 kf : KeepsFrom K W2 wr
 sp : Spares w.heap.size itTT W2 wr
 szK : w.heap.size + 8 ≤ K
 szn : K ≤ nb
section
variable {w W2 wr w' : World} {cv : Array Value} {K nb : Nat} {nd : List Value} {bs c : List UInt8} {a0 o : Nat}
theorem TxL.wrote (h : TxL w W2 cv K nb nd bs a0 o wr) (hu : BuF (w.heap.size + 1 + 1) (w.heap.size + 1 + 1) (Lib.byteCells (bs ++ c)) w') (hB : Below (w.heap.size + 1 + 1) wr w') (hk : OthK (w.heap.size + 1 + 1) wr w') : TxL w W2 cv K nb nd (bs ++ c) a0 o w' := by
 have h1 := h.szK
 have h2 := h.szn
 exact ⟨h.mem.wrote hu hB hk, OthK.blk hk h.ah (by omega) (by decide), OthK.blk hk h.op (by omega) (by decide), OthK.blk hk h.blk (by omega) (by decide), h.kf.trans (OthK.keeps hk hB.size (by omega)), h.sp.trans (OthK.spares hk (hB.mono (by omega)) h.mem.bui), h1, h2⟩
theorem TxL.quiet (h : TxL w W2 cv K nb nd bs a0 o wr) (hb : Below wr.heap.size wr w') : TxL w W2 cv K nb nd bs a0 o w' := by
 have hg := below_grownBy hb none
 exact ⟨h.mem.turned hg (fun r e => by cases e), keep_heap (B := 0) h.ah (by decide) hg (fun r e => by cases e), keep_heap (B := 0) h.op (by decide) hg (fun r e => by cases e), h.blk.below hb h.blk.lt, h.kf.trans (KeepsFrom.of_grownBy hg (fun r e => by cases e)), h.sp.trans (Spares.grown hg h.mem.bel.size (fun r e => by cases e)), h.szK, h.szn⟩
theorem TxL.setA (h : TxL w W2 cv K nb nd bs a0 o wr) (v : Nat) : TxL w W2 cv K nb nd bs v o (wr.setCell ⟨w.heap.size + 1 + 1 + 1, 0, none⟩ (.int .i64 (v : Int))) := by
 have h1 := h.szK
 have h2 := h.szn
 have hg := grownBy_set wr (w.heap.size + 1 + 1 + 1) 0 (.int .i64 (v : Int))
 refine ⟨h.mem.set (by omega) h.ah _, h.ah.set _, h.op.kept hg (by simp), h.blk.kept hg (by simp; omega), h.kf.trans ((KeepsOthers.setCell wr _ _).from _), h.sp.trans (Spares.grown hg h.mem.bel.size (fun r e => by cases e; exact ⟨by omega, fun cs t fr hcs => by rw [show wr.heap[w.heap.size + 1 + 1 + 1]? = _ from h.ah] at hcs; cases hcs; decide⟩)), h1, h2⟩
theorem TxL.setO (h : TxL w W2 cv K nb nd bs a0 o wr) (v : Nat) : TxL w W2 cv K nb nd bs a0 v (wr.setCell ⟨w.heap.size + 1 + 1 + 1 + 1, 0, none⟩ (.int .i64 (v : Int))) := by
 have h1 := h.szK
 have h2 := h.szn
 have hg := grownBy_set wr (w.heap.size + 1 + 1 + 1 + 1) 0 (.int .i64 (v : Int))
 refine ⟨h.mem.set (by omega) h.op _, h.ah.kept hg (by simp), h.op.set _, h.blk.kept hg (by simp; omega), h.kf.trans ((KeepsOthers.setCell wr _ _).from _), h.sp.trans (Spares.grown hg h.mem.bel.size (fun r e => by cases e; exact ⟨by omega, fun cs t fr hcs => by rw [show wr.heap[w.heap.size + 1 + 1 + 1 + 1]? = _ from h.op] at hcs; cases hcs; decide⟩)), h1, h2⟩
theorem TxL.tx (h : TxL w W2 cv K nb nd bs a0 o wr) {d : CfD} {pre : List NxT} (he : txAll d (pre.map (·.nd)) = ⟨bs, a0, o⟩) : KeepsFrom K W2 wr ∧ Spares w.heap.size itTT W2 wr ∧ TxI d w cv pre wr := by
 refine ⟨h.kf, h.sp, ?_, ?_, ?_⟩
 ·rw [he]; exact h.mem
 ·rw [he]; exact h.ah
 ·rw [he]; exact h.op
end
theorem repl_1 : ∀ n : Nat, Lib.repeatL [(41 : UInt8)] n = List.replicate n 41
 | 0 => rfl
 | n + 1 => by
  show [41] ++ Lib.repeatL [41] n = _
  rw [repl_1 n]
  rfl
set_option maxRecDepth 100000 in
set_option maxHeartbeats 16000000 in
theorem ttext_any (d : CfD) (h : TrH) (kids : TrF) (a : Option Addr) (cap : Nat) (w : World) (hd : CfAt w d) (hI : TrS w (fun _ => True) a cap kids) (hN : kids.size ≤ 1099511627770)
 (hlo : ∀ x ∈ (TrF.cons h kids .nil).pre true 1, -9223372036854775808 ≤ x.h.k ∧ 1 ≤ x.d ∧ x.d ≤ 1000) (hok : ∀ q r, q ++ r = (TrF.cons h kids .nil).pre true 1 → TxOk (txAll d q)) :
 Calls Try.prog 93 #[d.v, treV h a kids.len cap] w fun e W => e = .returned (.string ⟨(txT d ((TrF.cons h kids .nil).pre true 1)).toArray⟩) ∧ Below w.heap.size w W := by
 obtain ⟨hk, hi, ha⟩ := h
 have hlm : kids.len ≤ cap ∧ cap ≤ 9223372036854775807 := ⟨hI.le, hI.max⟩
 obtain ⟨X, hX⟩ : ∃ q, Hid (txT d (TrF.pre true 1 (.cons ⟨hk, hi, ha⟩ kids .nil)) = q) := ⟨_, Lib.hid rfl⟩
 rw [hX.out]
 have HNT := Lib.hid (fun (i : Int) (V : World) (hV : Below w.heap.size w V) (h0 : 0 ≤ i) => tname_any d.toks d.ta d.tc i V (hd.grown hV).toks h0)
 have HNN := Lib.hid (fun (i : Int) (V : World) (hV : Below w.heap.size w V) (h0 : 0 ≤ i) => tname_any d.names d.na d.nc i V (hd.grown hV).names h0)
 have HI := Lib.hid hI
 have hdv : d.v = .agg #[.slice d.ta d.toks.length d.tc, .slice d.na d.names.length d.nc, .slice d.aa d.alts.length d.ac] := rfl
 obtain ⟨xta, hxta⟩ : ∃ q, Hid (d.ta = q) := ⟨_, Lib.hid rfl⟩
 obtain ⟨xna, hxna⟩ : ∃ q, Hid (d.na = q) := ⟨_, Lib.hid rfl⟩
 obtain ⟨xaa, hxaa⟩ : ∃ q, Hid (d.aa = q) := ⟨_, Lib.hid rfl⟩
 obtain ⟨xtc, hxtc⟩ : ∃ q, Hid (d.tc = q) := ⟨_, Lib.hid rfl⟩
 obtain ⟨xnc, hxnc⟩ : ∃ q, Hid (d.nc = q) := ⟨_, Lib.hid rfl⟩
 obtain ⟨xac, hxac⟩ : ∃ q, Hid (d.ac = q) := ⟨_, Lib.hid rfl⟩
 obtain ⟨T, HT⟩ : ∃ q, Hid (d.toks.length = q) := ⟨_, Lib.hid rfl⟩
 obtain ⟨N, HN⟩ : ∃ q, Hid (d.names.length = q) := ⟨_, Lib.hid rfl⟩
 obtain ⟨L, HL⟩ : ∃ q, Hid (d.alts.length = q) := ⟨_, Lib.hid rfl⟩
 rw [hxta.out, hxna.out, hxaa.out, hxtc.out, hxnc.out, hxac.out, HT.out, HN.out, HL.out] at hdv
 rw [hxta.out, hxtc.out, HT.out] at HNT
 rw [hxna.out, hxnc.out, HN.out] at HNN
 obtain ⟨KL, HKL⟩ : ∃ q, Hid (kids.len = q) := ⟨_, Lib.hid rfl⟩
 rw [HKL.out] at hlm ⊢
 have HD := Lib.hid (fun V => derived_any ⟨hk, hi, ha⟩ a KL cap V)
 have Hlo := Lib.hid hlo
 have Hok := Lib.hid hok
 rw [hdv]
 clear hd hI hdv hlo hok
 refine (callsIn_wide (n := 0)).1 ?_
 refine callsIn_of_wp_marks Try.func93 rfl trivial ?_ rfl
 simp only [Try.ntmps93, List.size_toArray, List.length_cons, List.length_nil, Nat.reduceAdd, Nat.reduceSub, Array.replicate_succ, Array.replicate_zero, List.push_toArray, List.append_toArray, List.nil_append, List.cons_append]
 gi_wp2_with (fail)
 refine ⟨trivial, rfl, ((callsIn_wide (n := 0)).2 (HD.out _)).mono ?_⟩
 rintro e w' ⟨rfl, rfl⟩
 gi_wp2_with (fail)
 unfold derW
 clear HD
 have hbel : Below w.heap.size w ((((((((w.alloc (.cells #[.slice xta T xtc, .slice xna N xnc, .slice xaa L xac] 25)).alloc (.cells #[.int .i64 hk, .int .i64 hi, .int .i64 ha, .slice a KL cap] 51)).alloc (.cells #[.pointer none, .slice none 0 0] 163)).alloc (.cells #[.int .i64 0] 3)).alloc (.cells #[.int .i64 0] 3)).alloc (.cells #[.int .i64 hk, .int .i64 hi, .int .i64 ha, .slice a KL cap] 51)).alloc (.cells #[.int .i64 hk, .int .i64 hi, .int .i64 ha, .slice a KL cap] 51)).alloc (.cells #[inVT 131] 135)) := ((((((((Below.refl _ w).alloc (Nat.le_refl _) _).alloc (by simp) _).alloc (by simp; omega) _).alloc (by simp; omega) _).alloc (by simp; omega) _).alloc (by simp; omega) _).alloc (by simp; omega) _).alloc (by simp; omega) _
 have hB3 := (Blk.new ((((((w.alloc (.cells #[.slice xta T xtc, .slice xna N xnc, .slice xaa L xac] 25)).alloc (.cells #[.int .i64 hk, .int .i64 hi, .int .i64 ha, .slice a KL cap] 51)).alloc (.cells #[.pointer none, .slice none 0 0] 163)).alloc (.cells #[.int .i64 0] 3)).alloc (.cells #[.int .i64 0] 3)).alloc (.cells #[.int .i64 hk, .int .i64 hi, .int .i64 ha, .slice a KL cap] 51)) 51 #[.int .i64 hk, .int .i64 hi, .int .i64 ha, .slice a KL cap]).alloc (.cells #[inVT 131] 135)
 have hBi := World.alloc_heap_new (((((((w.alloc (.cells #[.slice xta T xtc, .slice xna N xnc, .slice xaa L xac] 25)).alloc (.cells #[.int .i64 hk, .int .i64 hi, .int .i64 ha, .slice a KL cap] 51)).alloc (.cells #[.pointer none, .slice none 0 0] 163)).alloc (.cells #[.int .i64 0] 3)).alloc (.cells #[.int .i64 0] 3)).alloc (.cells #[.int .i64 hk, .int .i64 hi, .int .i64 ha, .slice a KL cap] 51)).alloc (.cells #[.int .i64 hk, .int .i64 hi, .int .i64 ha, .slice a KL cap] 51)) (.cells #[inVT 131] 135)
 simp only [World.size_alloc] at hB3 hBi
 have hM : TxM w ((((((((w.alloc (.cells #[.slice xta T xtc, .slice xna N xnc, .slice xaa L xac] 25)).alloc (.cells #[.int .i64 hk, .int .i64 hi, .int .i64 ha, .slice a KL cap] 51)).alloc (.cells #[.pointer none, .slice none 0 0] 163)).alloc (.cells #[.int .i64 0] 3)).alloc (.cells #[.int .i64 0] 3)).alloc (.cells #[.int .i64 hk, .int .i64 hi, .int .i64 ha, .slice a KL cap] 51)).alloc (.cells #[.int .i64 hk, .int .i64 hi, .int .i64 ha, .slice a KL cap] 51)).alloc (.cells #[inVT 131] 135)) #[.slice xta T xtc, .slice xna N xnc, .slice xaa L xac] [] := by
  refine ⟨hbel, ?_, ?_⟩
  ·exact ((((((((Blk.new w 25 #[.slice xta T xtc, .slice xna N xnc, .slice xaa L xac]).alloc _).alloc _).alloc _).alloc _).alloc _).alloc _).alloc _)
  ·have := bu_newT ((w.alloc (.cells #[.slice xta T xtc, .slice xna N xnc, .slice xaa L xac] 25)).alloc (.cells #[.int .i64 hk, .int .i64 hi, .int .i64 ha, .slice a KL cap] 51))
   simp only [World.size_alloc] at this
   exact ((((this.alloc _).alloc _).alloc _).alloc _).alloc _
 have hc0 : Boxed ((((((((w.alloc (.cells #[.slice xta T xtc, .slice xna N xnc, .slice xaa L xac] 25)).alloc (.cells #[.int .i64 hk, .int .i64 hi, .int .i64 ha, .slice a KL cap] 51)).alloc (.cells #[.pointer none, .slice none 0 0] 163)).alloc (.cells #[.int .i64 0] 3)).alloc (.cells #[.int .i64 0] 3)).alloc (.cells #[.int .i64 hk, .int .i64 hi, .int .i64 ha, .slice a KL cap] 51)).alloc (.cells #[.int .i64 hk, .int .i64 hi, .int .i64 ha, .slice a KL cap] 51)).alloc (.cells #[inVT 131] 135)) (w.heap.size + 1 + 1 + 1) 3 (.int .i64 0) := by
  have := (Boxed.new (((w.alloc (.cells #[.slice xta T xtc, .slice xna N xnc, .slice xaa L xac] 25)).alloc (.cells #[.int .i64 hk, .int .i64 hi, .int .i64 ha, .slice a KL cap] 51)).alloc (.cells #[.pointer none, .slice none 0 0] 163)) 3 (.int .i64 0))
  simp only [World.size_alloc] at this
  exact (((this.alloc _).alloc _).alloc _).alloc _
 have hc1 : Boxed ((((((((w.alloc (.cells #[.slice xta T xtc, .slice xna N xnc, .slice xaa L xac] 25)).alloc (.cells #[.int .i64 hk, .int .i64 hi, .int .i64 ha, .slice a KL cap] 51)).alloc (.cells #[.pointer none, .slice none 0 0] 163)).alloc (.cells #[.int .i64 0] 3)).alloc (.cells #[.int .i64 0] 3)).alloc (.cells #[.int .i64 hk, .int .i64 hi, .int .i64 ha, .slice a KL cap] 51)).alloc (.cells #[.int .i64 hk, .int .i64 hi, .int .i64 ha, .slice a KL cap] 51)).alloc (.cells #[inVT 131] 135)) (w.heap.size + 1 + 1 + 1 + 1) 3 (.int .i64 0) := by
  have := (Boxed.new ((((w.alloc (.cells #[.slice xta T xtc, .slice xna N xnc, .slice xaa L xac] 25)).alloc (.cells #[.int .i64 hk, .int .i64 hi, .int .i64 ha, .slice a KL cap] 51)).alloc (.cells #[.pointer none, .slice none 0 0] 163)).alloc (.cells #[.int .i64 0] 3)) 3 (.int .i64 0))
  simp only [World.size_alloc] at this
  exact ((this.alloc _).alloc _).alloc _
 have hws : (((((((((w.alloc (.cells #[.slice xta T xtc, .slice xna N xnc, .slice xaa L xac] 25)).alloc (.cells #[.int .i64 hk, .int .i64 hi, .int .i64 ha, .slice a KL cap] 51)).alloc (.cells #[.pointer none, .slice none 0 0] 163)).alloc (.cells #[.int .i64 0] 3)).alloc (.cells #[.int .i64 0] 3)).alloc (.cells #[.int .i64 hk, .int .i64 hi, .int .i64 ha, .slice a KL cap] 51)).alloc (.cells #[.int .i64 hk, .int .i64 hi, .int .i64 ha, .slice a KL cap] 51)).alloc (.cells #[inVT 131] 135))).heap.size = w.heap.size + 1 + 1 + 1 + 1 + 1 + 1 + 1 + 1 := by simp
 rw [show derV (((((w.alloc (.cells #[.slice xta T xtc, .slice xna N xnc, .slice xaa L xac] 25)).alloc (.cells #[.int .i64 hk, .int .i64 hi, .int .i64 ha, .slice a KL cap] 51)).alloc (.cells #[.pointer none, .slice none 0 0] 163)).alloc (.cells #[.int .i64 0] 3)).alloc (.cells #[.int .i64 0] 3)) = .func (.func 143) #[] #[.pointer (some ⟨w.heap.size + 1 + 1 + 1 + 1 + 1 + 1, 0, none⟩), .pointer (some ⟨w.heap.size + 1 + 1 + 1 + 1 + 1 + 1 + 1, 0, none⟩)] from by unfold derV; simp only [World.size_alloc]]
 generalize ((((((((w.alloc (.cells #[.slice xta T xtc, .slice xna N xnc, .slice xaa L xac] 25)).alloc (.cells #[.int .i64 hk, .int .i64 hi, .int .i64 ha, .slice a KL cap] 51)).alloc (.cells #[.pointer none, .slice none 0 0] 163)).alloc (.cells #[.int .i64 0] 3)).alloc (.cells #[.int .i64 0] 3)).alloc (.cells #[.int .i64 hk, .int .i64 hi, .int .i64 ha, .slice a KL cap] 51)).alloc (.cells #[.int .i64 hk, .int .i64 hi, .int .i64 ha, .slice a KL cap] 51)).alloc (.cells #[inVT 131] 135)) = wl at hbel hB3 hBi hM hc0 hc1 hws ⊢
 have Hws := Lib.hid hws
 clear hws
 refine range_law (T := itTT) (n₀ := w.heap.size) (encs := encsT) (Good := GoodT w (TrF.pre true 1 (.cons ⟨hk, hi, ha⟩ kids .nil))) (Full := FullT (TrF.pre true 1 (.cons ⟨hk, hi, ha⟩ kids .nil))) (gf := 143) (lb := #[.pointer (some ⟨w.heap.size + 1 + 1 + 1 + 1 + 1 + 1, 0, none⟩), .pointer (some ⟨w.heap.size + 1 + 1 + 1 + 1 + 1 + 1 + 1, 0, none⟩)]) rfl (enters_of Try.func143 (by kernel_rfl) rfl)
  hbel.size (all_walksD w wl (w.heap.size + 1 + 1 + 1 + 1 + 1 + 1) (w.heap.size + 1 + 1 + 1 + 1 + 1 + 1 + 1) ⟨hk, hi, ha⟩ kids a cap HI.out hbel (by omega) (hB3.cell 0) (hB3.cell 1) (hB3.cell 2) (by rw [HKL.out]; exact hB3.cell 3) hBi) (fun _ => rfl)
  (TxI d w #[.slice xta T xtc, .slice xna N xnc, .slice xaa L xac]) (fun _ _ => False)
  ?bI ?bIx ?h0 ?round ?done ?stop
 case bI => exact bears_tx d w _ _ hbel.size
 case bIx => exact fun _ _ _ _ h => h.elim
 case h0 => exact ⟨hM, hc0, hc1⟩
 case stop => rintro D pre W hD hgood hI; exact hI.elim
 case round =>
  rintro l pre ⟨⟨dd, nh, kf⟩, xa, xcap⟩ W hl ⟨r, hr⟩ hI0 hgood
  have hpre : ∃ r, (pre.map (·.nd) ++ [⟨dd, nh, kf⟩]) ++ r = (TrF.pre true 1 (.cons ⟨hk, hi, ha⟩ kids .nil)) := by
   obtain ⟨⟨q, hq⟩, -⟩ := hgood
   exact ⟨q, by rw [← hq, List.map_append]; rfl⟩
  have hmem := Hlo.out ⟨dd, nh, kf⟩ (by obtain ⟨r, hr⟩ := hpre; rw [← hr]; simp)
  have hok1 : TxOk (txAll d (pre.map (·.nd))) := by obtain ⟨r, hr⟩ := hpre; exact Hok.out _ ([⟨dd, nh, kf⟩] ++ r) (by rw [← hr, List.append_assoc])
  have hok2 : TxOk (txStep d (txAll d (pre.map (·.nd))) ⟨dd, nh, kf⟩) := by obtain ⟨r, hr⟩ := hpre; rw [← txAll_snoc]; exact Hok.out _ r hr
  obtain ⟨nk, ni, na⟩ := nh
  obtain ⟨hlk, hd1, hd2⟩ := hmem
  dsimp only at hlk hd1 hd2
  have hnx : txAll d ((pre ++ [(⟨⟨dd, ⟨nk, ni, na⟩, kf⟩, xa, xcap⟩ : NxT)]).map (·.nd)) = txStep d (txAll d (pre.map (·.nd))) ⟨dd, ⟨nk, ni, na⟩, kf⟩ := by rw [List.map_append]; exact txAll_snoc _ _ _
  clear hpre hgood
  have hws : w.heap.size + 8 ≤ wl.heap.size := by have := Hws.out; omega
  have hlW : l < W.heap.size := (Array.getElem?_eq_some_iff.1 hr).1
  dsimp only [encsT, treV]
  obtain ⟨ln, hln⟩ : ∃ q, Hid (kf.len = q) := ⟨_, Lib.hid rfl⟩
  rw [hln.out]
  have HIT := Lib.hid (fun V => isTok_any ⟨nk, ni, na⟩ xa ln xcap V)
  have Hnx := Lib.hid hnx
  have Hok2 := Lib.hid hok2
  clear hnx hok2
  gi_wp2_with (fail)
  refine ⟨(KeepsOthers.alloc W _).from _, Spares.grown (World.grownBy_alloc W _ none) hI0.1.bel.size (fun r e => by cases e), fun W2 hg2 => ?_⟩
  have hJ : TxI d w #[.slice xta T xtc, .slice xna N xnc, .slice xaa L xac] pre W2 := by
   refine bears_tx d w _ _ hbel.size pre _ _ (some l) ((bears_tx d w _ _ hbel.size).alloc _ hI0) hg2 (fun r e => ?_)
   cases e
   exact ⟨hl, _, (Below.heap_alloc _ _ _ hlW).trans hr, .inl rfl⟩
  have hx : Blk W2 W.heap.size 51 [.int .i64 nk, .int .i64 ni, .int .i64 na, .slice xa ln xcap] := (Blk.new W 51 #[.int .i64 nk, .int .i64 ni, .int .i64 na, .slice xa ln xcap]).kept hg2 (by simp; omega)
  obtain ⟨hM, hA, hO⟩ := hJ
  obtain ⟨S0, hS0⟩ : ∃ q, Hid (txAll d (pre.map (·.nd)) = q) := ⟨_, Lib.hid rfl⟩
  rw [hS0.out] at hM hA hO hok1 Hok2 Hnx
  obtain ⟨o0, a0, p0⟩ := S0
  obtain ⟨hok1, -, hp0⟩ := hok1
  dsimp only at hM hA hO hok1 hp0
  have HL0 : Hid (TxL w W2 #[.slice xta T xtc, .slice xna N xnc, .slice xaa L xac] wl.heap.size W.heap.size [.int .i64 nk, .int .i64 ni, .int .i64 na, .slice xa ln xcap] (o0 ++ List.replicate 0 41) a0 p0 W2) := Lib.hid ⟨by rw [List.replicate_zero, List.append_nil]; exact hM, hA, hO, hx, KeepsFrom.refl _ _, Spares.refl _ _ _, hws, by omega⟩
  clear hM hA hO hx hg2 hr hI0 hlW
  gi_wp2_with (fail)
  gi_loopg [] p0 (fun g wr => ∃ o j : Nat, g = o ∧ Hid (o + j = p0 ∧ (j = 0 ∨ dd ≤ o + 1)) ∧ Hid (TxL w W2 #[.slice xta T xtc, .slice xna N xnc, .slice xaa L xac] wl.heap.size W.heap.size [.int .i64 nk, .int .i64 ni, .int .i64 na, .slice xa ln xcap] (o0 ++ List.replicate j 41) a0 o wr))
  case atStart => exact ⟨p0, 0, rfl, Lib.hid ⟨by omega, .inl rfl⟩, HL0⟩
  case round =>
   obtain ⟨o, j, hgo, hoj, HLr⟩ := hrel
   obtain rfl := hgo.symm
   have hojo := hoj.out
   have ho1 : o ≤ 1000 := by omega
   have hj1 : j ≤ 1000 := by omega
   have HS := HLr.out
   have k4 := HS.op.cell
   have f4 := HS.op.frozen
   by_cases hge : dd ≤ o
   ·have HW := Lib.hid (txb_any (w.heap.size + 1 + 1) (o0 ++ List.replicate j 41) 41 41 rfl wr HS.mem.bui (by rw [List.length_append, List.length_replicate]; omega) (by have := HS.mem.bel.size; have := HS.szK; have := HS.blk.lt; have := HS.szn; omega))
    clear HS hojo
    gi_wp2_with (fail)
    refine ⟨trivial, rfl, ((callsIn_wide (n := 0)).2 HW.out).mono ?_⟩
    rintro e w5 ⟨rfl, hu5, hb5, hk5⟩
    have HS5 := HLr.out.wrote hu5 hb5 hk5
    rw [List.append_assoc, show List.replicate j (41 : UInt8) ++ [41] = List.replicate (j + 1) 41 from (List.replicate_succ').symm] at HS5
    have k5 := HS5.op.cell
    have f5 := HS5.op.frozen
    have HL6 := Lib.hid (HS5.setO (o - 1))
    rw [show ((o - 1 : Nat) : Int) = (o : Int) - 1 by omega] at HL6
    clear HS5 hu5 hb5 hk5 k4 f4 HW
    gi_wp2_with (fail)
    gi_roundg (o - 1)
    case measure => omega
    case rel => exact ⟨o - 1, j + 1, rfl, Lib.hid (by have := hoj.out; omega), HL6⟩
   ·have HC : Hid (j = TxS.cl ⟨o0, a0, p0⟩ dd) := Lib.hid (by unfold TxS.cl; show j = p0 + 1 - dd; omega)
    have hlt : o < dd := by omega
    clear hge hojo
    have k3 := HS.ah.cell
    clear HS
    by_cases hle : dd ≤ a0
    ·have HW := Lib.hid (txb_any (w.heap.size + 1 + 1) (o0 ++ List.replicate j 41) 32 32 rfl wr HLr.out.mem.bui (by rw [List.length_append, List.length_replicate]; omega) (by have := HLr.out.mem.bel.size; have := HLr.out.szK; have := HLr.out.blk.lt; have := HLr.out.szn; omega))
     gi_wp2_with (fail)
     refine ⟨trivial, rfl, ((callsIn_wide (n := 0)).2 HW.out).mono ?_⟩
     rintro e w5 ⟨rfl, hu5, hb5, hk5⟩
     have HLb := Lib.hid (HLr.out.wrote hu5 hb5 hk5)
     clear hu5 hb5 hk5 HW k3 k4 f4
     have HS := HLb.out
     have k3 := HS.ah.cell
     have f3 := HS.ah.frozen
     have HLc := Lib.hid (HS.setA dd)
     clear HS HLb
     gi_upto_region 13 with fail
     generalize World.setCell w5 _ _ = w6 at HLc ⊢
     clear k3 f3
     have HS := HLc.out
     have y0 := HS.blk.cell 0
     have y1 := HS.blk.cell 1
     have y2 := HS.blk.cell 2
     have y3 := HS.blk.cell 3
     have yl := HS.blk.lt
     simp only [List.getElem?_cons_zero, List.getElem?_cons_succ] at y0 y1 y2 y3
     clear HS
     gi_wp2_with (fail)
     refine ⟨trivial, rfl, ((callsIn_wide (n := 0)).2 (HIT.out _)).mono ?_⟩
     rintro e w7 ⟨rfl, hb7⟩
     have HLd := Lib.hid (HLc.out.quiet hb7)
     clear y0 y1 y2 y3 yl hb7 HLc
     have HS := HLd.out
     have hC2 : Blk w7 (w.heap.size) 25 [.slice xta T xtc, .slice xna N xnc, .slice xaa L xac] := HS.mem.cfg
     have z0 := hC2.cell 0
     have z1 := hC2.cell 1
     have zl := hC2.lt
     have y0 := HS.blk.cell 0
     have yl := HS.blk.lt
     simp only [List.getElem?_cons_zero, List.getElem?_cons_succ] at y0 z0 z1
     have hsz := HS.mem.bel.size
     have hK8 := HS.szK
     have hKn := HS.szn
     clear hC2
     have ho9 : p0 - j = o := by have := hoj.out.1; omega
     have Hok3 := Lib.hid Hok2.out.1
     have Hnx3 := Lib.hid Hnx.out
     by_cases h0 : 0 ≤ nk
     ·have e0 : decide (0 ≤ nk) = true := decide_eq_true h0
      dsimp only
      rw [e0]
      clear e0
      obtain ⟨nm, hnm⟩ : ∃ q, Hid (nameD d.toks nk = q) := ⟨_, Lib.hid rfl⟩
      have hst : txStep d ⟨o0, a0, p0⟩ ⟨dd, ⟨nk, ni, na⟩, kf⟩ = ⟨((o0 ++ List.replicate j 41) ++ [32]) ++ nm.data.toList, dd, o⟩ := by
       unfold txStep
       dsimp only
       rw [if_pos h0, ← HC.out, if_pos hle, hnm.out, ho9]
      have hbd := Hok3.out
      rw [hst] at hbd
      dsimp only at hbd
      rw [List.length_append] at hbd
      have Hst := Lib.hid (Hnx3.out.trans hst)
      have HW2 := Lib.hid (txw_any (w.heap.size + 1 + 1) ((o0 ++ List.replicate j 41) ++ [32]) nm w7 HS.mem.bui (by have : nm.size = nm.data.toList.length := rfl; omega) (by omega))
      have HN1 := HNT.out nk w7 HS.mem.bel h0
      rw [hnm.out] at HN1
      have HN1 := Lib.hid HN1
      clear hst hbd HS Hok3 Hnx3 ho9
      gi_wp2_with (fail)
      refine ⟨trivial, rfl, ((callsIn_wide (n := 0)).2 HN1.out).mono ?_⟩
      rintro e w8 ⟨rfl, rfl⟩
      gi_wp2_with (fail)
      refine ⟨trivial, rfl, ((callsIn_wide (n := 0)).2 HW2.out).mono ?_⟩
      rintro e w9 ⟨rfl, hu9, hb9, hk9⟩
      have HE := Lib.hid ((HLd.out.wrote hu9 hb9 hk9).tx Hst.out)
      clear y0 z0 z1 hu9 hb9 hk9
      gi_wp2_with (fail)
      exact HE.out
     ·have e0 : decide (0 ≤ nk) = false := decide_eq_false h0
      dsimp only
      rw [e0]
      clear e0
      obtain ⟨nm, hnm⟩ : ∃ q, Hid (nameD d.names (-1 - nk) = q) := ⟨_, Lib.hid rfl⟩
      have hst : txStep d ⟨o0, a0, p0⟩ ⟨dd, ⟨nk, ni, na⟩, kf⟩ = ⟨(((o0 ++ List.replicate j 41) ++ [32]) ++ nm.data.toList) ++ [40], dd, dd⟩ := by
       unfold txStep
       dsimp only
       rw [if_neg h0, ← HC.out, if_pos hle, hnm.out]
      have hbd := Hok3.out
      rw [hst] at hbd
      dsimp only at hbd
      rw [List.length_append, List.length_append] at hbd
      have Hst := Lib.hid (Hnx3.out.trans hst)
      have HLe : Hid (TxL w W2 #[.slice xta T xtc, .slice xna N xnc, .slice xaa L xac] wl.heap.size W.heap.size [.int .i64 nk, .int .i64 ni, .int .i64 na, .slice xa ln xcap] ((o0 ++ List.replicate j 41) ++ [32]) dd o w7.drew) := Lib.hid (HLd.out.quiet (Below.refl _ w7).drew)
      have HW2 := Lib.hid (txw_any (w.heap.size + 1 + 1) ((o0 ++ List.replicate j 41) ++ [32]) nm w7.drew HLe.out.mem.bui (by have : nm.size = nm.data.toList.length := rfl; omega) (by show _ ≤ w7.heap.size; omega))
      have HRU := Lib.hid (truleOf_any nk w7.drew ⟨hlk, by omega⟩)
      have HN1 := HNN.out (-1 - nk) w7.drew HLe.out.mem.bel (by omega)
      rw [hnm.out] at HN1
      have HN1 := Lib.hid HN1
      have Hbd := Lib.hid hbd
      clear hst hbd HS Hok3 Hnx3 ho9
      gi_wp2_with (fail)
      refine wpInR_region_still_tailT 6 (by kernel_rfl) (by kernel_rfl) (by kernel_rfl) ?_
      simp only [List.take_succ_cons, List.take_zero, List.drop_succ_cons, List.drop_zero]
      still_step
      still_step
      still_step
      still_step
      still_call HRU.out
      still_call HN1.out
      refine wpStill_nil ?_
      gi_wp2_with (fail)
      refine ⟨trivial, rfl, ((callsIn_wide (n := 0)).2 HW2.out).mono ?_⟩
      rintro e w9 ⟨rfl, hu9, hb9, hk9⟩
      have HLf := Lib.hid (HLe.out.wrote hu9 hb9 hk9)
      have HW3 := Lib.hid (txb_any (w.heap.size + 1 + 1) (((o0 ++ List.replicate j 41) ++ [32]) ++ nm.data.toList) 40 40 rfl w9 HLf.out.mem.bui (by rw [List.length_append]; have := Hbd.out; omega) (by have := HLf.out.mem.bel.size; have := HLf.out.szK; have := HLf.out.blk.lt; have := HLf.out.szn; omega))
      clear y0 z0 z1 yl zl hu9 hb9 hk9 HW2
      gi_wp2_with (fail)
      refine ⟨trivial, rfl, ((callsIn_wide (n := 0)).2 HW3.out).mono ?_⟩
      rintro e w10 ⟨rfl, hu10, hb10, hk10⟩
      have HLg := Lib.hid (HLf.out.wrote hu10 hb10 hk10)
      have k4 := HLg.out.op.cell
      have f4 := HLg.out.op.frozen
      have HE := Lib.hid ((HLg.out.setO dd).tx Hst.out)
      clear hu10 hb10 hk10
      gi_wp2_with (fail)
      exact HE.out
    ·have hle2 : a0 < dd := by omega
     have HLb := HLr
     clear hle
     have HS := HLb.out
     have k3 := HS.ah.cell
     have f3 := HS.ah.frozen
     have HLc := Lib.hid (HS.setA dd)
     clear HS HLb
     gi_upto_region 13 with fail
     generalize World.setCell wr _ _ = w6 at HLc ⊢
     clear k3 f3
     have HS := HLc.out
     have y0 := HS.blk.cell 0
     have y1 := HS.blk.cell 1
     have y2 := HS.blk.cell 2
     have y3 := HS.blk.cell 3
     have yl := HS.blk.lt
     simp only [List.getElem?_cons_zero, List.getElem?_cons_succ] at y0 y1 y2 y3
     clear HS
     gi_wp2_with (fail)
     refine ⟨trivial, rfl, ((callsIn_wide (n := 0)).2 (HIT.out _)).mono ?_⟩
     rintro e w7 ⟨rfl, hb7⟩
     have HLd := Lib.hid (HLc.out.quiet hb7)
     clear y0 y1 y2 y3 yl hb7 HLc
     have HS := HLd.out
     have hC2 : Blk w7 (w.heap.size) 25 [.slice xta T xtc, .slice xna N xnc, .slice xaa L xac] := HS.mem.cfg
     have z0 := hC2.cell 0
     have z1 := hC2.cell 1
     have zl := hC2.lt
     have y0 := HS.blk.cell 0
     have yl := HS.blk.lt
     simp only [List.getElem?_cons_zero, List.getElem?_cons_succ] at y0 z0 z1
     have hsz := HS.mem.bel.size
     have hK8 := HS.szK
     have hKn := HS.szn
     clear hC2
     have ho9 : p0 - j = o := by have := hoj.out.1; omega
     have Hok3 := Lib.hid Hok2.out.1
     have Hnx3 := Lib.hid Hnx.out
     by_cases h0 : 0 ≤ nk
     ·have e0 : decide (0 ≤ nk) = true := decide_eq_true h0
      dsimp only
      rw [e0]
      clear e0
      obtain ⟨nm, hnm⟩ : ∃ q, Hid (nameD d.toks nk = q) := ⟨_, Lib.hid rfl⟩
      have hst : txStep d ⟨o0, a0, p0⟩ ⟨dd, ⟨nk, ni, na⟩, kf⟩ = ⟨(o0 ++ List.replicate j 41) ++ nm.data.toList, dd, o⟩ := by
       unfold txStep
       dsimp only
       rw [if_pos h0, ← HC.out, if_neg (Nat.not_le.2 hle2), List.append_nil, hnm.out, ho9]
      have hbd := Hok3.out
      rw [hst] at hbd
      dsimp only at hbd
      rw [List.length_append] at hbd
      have Hst := Lib.hid (Hnx3.out.trans hst)
      have HW2 := Lib.hid (txw_any (w.heap.size + 1 + 1) (o0 ++ List.replicate j 41) nm w7 HS.mem.bui (by have : nm.size = nm.data.toList.length := rfl; omega) (by omega))
      have HN1 := HNT.out nk w7 HS.mem.bel h0
      rw [hnm.out] at HN1
      have HN1 := Lib.hid HN1
      clear hst hbd HS Hok3 Hnx3 ho9
      gi_wp2_with (fail)
      refine ⟨trivial, rfl, ((callsIn_wide (n := 0)).2 HN1.out).mono ?_⟩
      rintro e w8 ⟨rfl, rfl⟩
      gi_wp2_with (fail)
      refine ⟨trivial, rfl, ((callsIn_wide (n := 0)).2 HW2.out).mono ?_⟩
      rintro e w9 ⟨rfl, hu9, hb9, hk9⟩
      have HE := Lib.hid ((HLd.out.wrote hu9 hb9 hk9).tx Hst.out)
      clear y0 z0 z1 hu9 hb9 hk9
      gi_wp2_with (fail)
      exact HE.out
     ·have e0 : decide (0 ≤ nk) = false := decide_eq_false h0
      dsimp only
      rw [e0]
      clear e0
      obtain ⟨nm, hnm⟩ : ∃ q, Hid (nameD d.names (-1 - nk) = q) := ⟨_, Lib.hid rfl⟩
      have hst : txStep d ⟨o0, a0, p0⟩ ⟨dd, ⟨nk, ni, na⟩, kf⟩ = ⟨((o0 ++ List.replicate j 41) ++ nm.data.toList) ++ [40], dd, dd⟩ := by
       unfold txStep
       dsimp only
       rw [if_neg h0, ← HC.out, if_neg (Nat.not_le.2 hle2), List.append_nil, hnm.out]
      have hbd := Hok3.out
      rw [hst] at hbd
      dsimp only at hbd
      rw [List.length_append, List.length_append] at hbd
      have Hst := Lib.hid (Hnx3.out.trans hst)
      have HLe : Hid (TxL w W2 #[.slice xta T xtc, .slice xna N xnc, .slice xaa L xac] wl.heap.size W.heap.size [.int .i64 nk, .int .i64 ni, .int .i64 na, .slice xa ln xcap] (o0 ++ List.replicate j 41) dd o w7.drew) := Lib.hid (HLd.out.quiet (Below.refl _ w7).drew)
      have HW2 := Lib.hid (txw_any (w.heap.size + 1 + 1) (o0 ++ List.replicate j 41) nm w7.drew HLe.out.mem.bui (by have : nm.size = nm.data.toList.length := rfl; omega) (by show _ ≤ w7.heap.size; omega))
      have HRU := Lib.hid (truleOf_any nk w7.drew ⟨hlk, by omega⟩)
      have HN1 := HNN.out (-1 - nk) w7.drew HLe.out.mem.bel (by omega)
      rw [hnm.out] at HN1
      have HN1 := Lib.hid HN1
      have Hbd := Lib.hid hbd
      clear hst hbd HS Hok3 Hnx3 ho9
      gi_wp2_with (fail)
      refine wpInR_region_still_tailT 6 (by kernel_rfl) (by kernel_rfl) (by kernel_rfl) ?_
      simp only [List.take_succ_cons, List.take_zero, List.drop_succ_cons, List.drop_zero]
      still_step
      still_step
      still_step
      still_step
      still_call HRU.out
      still_call HN1.out
      refine wpStill_nil ?_
      gi_wp2_with (fail)
      refine ⟨trivial, rfl, ((callsIn_wide (n := 0)).2 HW2.out).mono ?_⟩
      rintro e w9 ⟨rfl, hu9, hb9, hk9⟩
      have HLf := Lib.hid (HLe.out.wrote hu9 hb9 hk9)
      have HW3 := Lib.hid (txb_any (w.heap.size + 1 + 1) ((o0 ++ List.replicate j 41) ++ nm.data.toList) 40 40 rfl w9 HLf.out.mem.bui (by rw [List.length_append]; have := Hbd.out; omega) (by have := HLf.out.mem.bel.size; have := HLf.out.szK; have := HLf.out.blk.lt; have := HLf.out.szn; omega))
      clear y0 z0 z1 yl zl hu9 hb9 hk9 HW2
      gi_wp2_with (fail)
      refine ⟨trivial, rfl, ((callsIn_wide (n := 0)).2 HW3.out).mono ?_⟩
      rintro e w10 ⟨rfl, hu10, hb10, hk10⟩
      have HLg := Lib.hid (HLf.out.wrote hu10 hb10 hk10)
      have k4 := HLg.out.op.cell
      have f4 := HLg.out.op.frozen
      have HE := Lib.hid ((HLg.out.setO dd).tx Hst.out)
      clear hu10 hb10 hk10
      gi_wp2_with (fail)
      exact HE.out
 case done =>
  rintro D xs W hD hfull hI hK
  obtain ⟨hM, hA, hO⟩ := hI
  rw [show xs.map (·.nd) = _ from hfull] at hM hA hO
  have hbd := Hok.out (TrF.pre true 1 (.cons ⟨hk, hi, ha⟩ kids .nil)) [] (List.append_nil _)
  obtain ⟨S0, hS0⟩ : ∃ q, Hid (txAll d (TrF.pre true 1 (.cons ⟨hk, hi, ha⟩ kids .nil)) = q) := ⟨_, Lib.hid rfl⟩
  rw [hS0.out] at hM hA hO hbd
  obtain ⟨o0, a0, p0⟩ := S0
  obtain ⟨hbd, -, hp0⟩ := hbd
  dsimp only at hM hO hbd hp0
  have hXe : Hid (X = o0 ++ List.replicate p0 41) := Lib.hid (by rw [← hX.out]; unfold txT; rw [hS0.out])
  have hws : w.heap.size + 8 ≤ wl.heap.size := by have := Hws.out; omega
  have hO4 : Boxed W (w.heap.size + 1 + 1 + 1 + 1) 3 (.int .i64 (p0 : Int)) := hO
  have HM := Lib.hid hM
  have HO := Lib.hid hO4
  have HKD := Lib.hid hK
  clear hfull hM hA hO hO4 hK hS0
  obtain ⟨s1, hs1⟩ : ∃ q : ByteArray, Hid ((⟨o0.toArray⟩ : ByteArray) = q) := ⟨_, Lib.hid rfl⟩
  obtain ⟨s2, hs2⟩ : ∃ q : ByteArray, Hid ((⟨(Lib.repeatL (⟨#[41]⟩ : ByteArray).data.toList p0).toArray⟩ : ByteArray) = q) := ⟨_, Lib.hid rfl⟩
  have hz1 : s1.size ≤ 100000 := by rw [← hs1.out]; show o0.toArray.size ≤ _; simpa using hbd
  have hz2 : s2.size ≤ 1000 := by rw [← hs2.out]; show (Lib.repeatL [41] p0).toArray.size ≤ _; rw [repl_1]; simpa using hp0
  have HXs : Hid (s1 ++ s2 = ⟨X.toArray⟩) := Lib.hid (by
   rw [← hs1.out, ← hs2.out, hXe.out]
   show ((⟨o0.toArray⟩ : ByteArray) ++ (⟨(Lib.repeatL [41] p0).toArray⟩ : ByteArray)) = _
   rw [repl_1]
   apply ByteArray.ext
   simp)
  have HB0 := Lib.hid ((Below.refl W.heap.size W).drew)
  have hO0 : Boxed W.drew (w.heap.size + 1 + 1 + 1 + 1) 3 (.int .i64 (p0 : Int)) := HO.out
  have HO0 := Lib.hid hO0
  have hstr := Any.Builder_String_any_k Try.laysBS Try.Builder_ExtraBS (w.heap.size + 1 + 1) (w.heap.size + 1 + 1) o0 W.drew HM.out.bui (by have := HM.out.bel.size; have := HO.out.lt; show _ ≤ W.heap.size; omega)
  rw [hs1.out] at hstr
  change Calls Try.prog 129 _ _ _ at hstr
  have Hstr := Lib.hid hstr
  have hDW : D < W.heap.size := (Array.getElem?_eq_some_iff.1 HKD.out).1
  clear hstr hO0 hbd
  gi_wp2_with (fail)
  refine wpIn_wide.2 ?_
  refine wp_region_held_drew (S := fun w' => w'.cell? ⟨w.heap.size + 1 + 1 + 1 + 1, 0, none⟩ = some (.int .i64 (p0 : Int))) (by kernel_rfl) ?_ (fun hHeld => ?_)
  ·exact HO0.out.cell
  refine wpAnyH_ready (rs := [0, 1]) (by kernel_rfl) (by simp) ?_
  refine AllReadyH.cons (iatLS iatZS) (fun K hK => ?_) (AllReadyH.cons (iatLS (iatSS iatZS)) (fun K hK => ?_) (AllReadyH.nil))
  ·
   go_simp
   refine Hstr.out.mono ?_
   rintro e9 K1 ⟨rfl, hu, hb, hk⟩
   have hk : OthK (w.heap.size + 1 + 1) W.drew K1 := hk
   have HO1 : Hid (Boxed K1 (w.heap.size + 1 + 1 + 1 + 1) 3 (.int .i64 (p0 : Int))) := Lib.hid (OthK.blk hk HO0.out (by omega) (by decide))
   have HK1 : Hid (K1.heap[D]? = some (.deferred (some []))) := Lib.hid (hk D _ HKD.out (fun e => by have := Option.some.inj e; omega) (fun c fz e => by cases e))
   have Hb1 := Lib.hid ((HM.out.bel.trans ((Below.refl W.heap.size W).drew.mono HM.out.bel.size)).trans (hb.mono (by omega)))
   have HRP := repeat_any ⟨#[41]⟩ p0 K1 (by omega) (by show 1 * p0 ≤ _; omega)
   rw [hs2.out] at HRP
   have HRP := Lib.hid HRP
   clear hu hb hk
   try dsimp only
   refine hK.out _ _ ?_ (fun hHeld => ?_)
   ·exact HO1.out.cell
   clear hK K
   try simp only [Act.put, List.setIfInBounds_toArray, List.set_cons_zero, List.set_cons_succ]
   refine wpAnyH_ready (rs := [1]) (by kernel_rfl) (by simp) ?_
   refine AllReadyH.cons (iatLS (iatSS iatZS)) (fun K hK => ?_) AllReadyH.nil
   have c0 := HO1.out.cell
   go_simp
   clear c0
   refine hK.out _ _ ?_ (fun hHeld => ?_)
   ·exact HO1.out.cell
   clear hK K
   try simp only [Act.put, List.setIfInBounds_toArray, List.set_cons_zero, List.set_cons_succ]
   refine wpAnyH_ready (rs := [2]) (by kernel_rfl) (by simp) ?_
   refine AllReadyH.cons (iatLS (iatSS (iatSS iatZS))) (fun K hK => ?_) AllReadyH.nil
   go_simp
   refine HRP.out.mono ?_
   rintro e9 K2 ⟨rfl, hb⟩
   have HO2 : Hid (Boxed K2 (w.heap.size + 1 + 1 + 1 + 1) 3 (.int .i64 (p0 : Int))) := Lib.hid (HO1.out.kept (below_grownBy hb none) (by simp))
   have HK2 : Hid (K2.heap[D]? = some (.deferred (some []))) := Lib.hid ((hb.block D (Array.getElem?_eq_some_iff.1 HK1.out).1).trans HK1.out)
   have Hb2 := Lib.hid (Hb1.out.trans (hb.mono Hb1.out.size))
   clear hb
   try dsimp only
   refine hK.out _ _ ?_ (fun hHeld => ?_)
   ·exact HO2.out.cell
   clear hK K
   try simp only [Act.put, List.setIfInBounds_toArray, List.set_cons_zero, List.set_cons_succ]
   refine wpAnyH_ready (rs := [3]) (by kernel_rfl) (by simp) ?_
   refine AllReadyH.cons (iatLS (iatSS (iatSS (iatSS iatZS)))) (fun K hK => ?_) AllReadyH.nil
   have hzz : ¬ 9223372036854775807 < s1.size + s2.size := by omega
   go_simp
   clear hzz
   refine hK.out _ _ ?_ (fun hHeld => ?_)
   ·exact HO2.out.cell
   clear hK K
   try simp only [Act.put, List.setIfInBounds_toArray, List.set_cons_zero, List.set_cons_succ]
   refine wpAnyH_ready (rs := [4]) (by kernel_rfl) (by simp) ?_
   refine AllReadyH.cons (iatLS (iatSS (iatSS (iatSS (iatSS iatZS))))) (fun K hK => ?_) AllReadyH.nil
   go_simp
   refine hK.out _ _ ?_ (fun hHeld => ?_)
   ·exact HO2.out.cell
   clear hK K
   try simp only [Act.put, List.setIfInBounds_toArray, List.set_cons_zero, List.set_cons_succ]
   refine wpAnyH_done (by kernel_rfl) ?_ _
   gi_wp2_with (fail)
   refine ⟨by simp, .inl ⟨_, _, rfl, run_takeDeferred HK2.out, ?_⟩⟩
   refine ⟨.string (s1 ++ s2), ?_, ?_, Hb2.out.trans ((Below.refl w.heap.size _).grown (grownBy_putObj' _ D (.deferred none)) (by have := Hb2.out.size; omega) (fun k e => by cases e; omega))⟩
   ·simp [results, Try.f93, go_sem]
   ·rw [HXs.out]
  ·
   have c0 := HO0.out.cell
   go_simp
   clear c0
   refine hK.out _ _ ?_ (fun hHeld => ?_)
   ·exact HO0.out.cell
   clear hK K
   try simp only [Act.put, List.setIfInBounds_toArray, List.set_cons_zero, List.set_cons_succ]
   refine wpAnyH_ready (rs := [0]) (by kernel_rfl) (by simp) ?_
   refine AllReadyH.cons (iatLS iatZS) (fun K hK => ?_) AllReadyH.nil
   go_simp
   refine Hstr.out.mono ?_
   rintro e9 K1 ⟨rfl, hu, hb, hk⟩
   have hk : OthK (w.heap.size + 1 + 1) W.drew K1 := hk
   have HO1 : Hid (Boxed K1 (w.heap.size + 1 + 1 + 1 + 1) 3 (.int .i64 (p0 : Int))) := Lib.hid (OthK.blk hk HO0.out (by omega) (by decide))
   have HK1 : Hid (K1.heap[D]? = some (.deferred (some []))) := Lib.hid (hk D _ HKD.out (fun e => by have := Option.some.inj e; omega) (fun c fz e => by cases e))
   have Hb1 := Lib.hid ((HM.out.bel.trans ((Below.refl W.heap.size W).drew.mono HM.out.bel.size)).trans (hb.mono (by omega)))
   have HRP := repeat_any ⟨#[41]⟩ p0 K1 (by omega) (by show 1 * p0 ≤ _; omega)
   rw [hs2.out] at HRP
   have HRP := Lib.hid HRP
   clear hu hb hk
   try dsimp only
   refine hK.out _ _ ?_ (fun hHeld => ?_)
   ·exact HO1.out.cell
   clear hK K
   try simp only [Act.put, List.setIfInBounds_toArray, List.set_cons_zero, List.set_cons_succ]
   refine wpAnyH_ready (rs := [2]) (by kernel_rfl) (by simp) ?_
   refine AllReadyH.cons (iatLS (iatSS (iatSS iatZS))) (fun K hK => ?_) AllReadyH.nil
   go_simp
   refine HRP.out.mono ?_
   rintro e9 K2 ⟨rfl, hb⟩
   have HO2 : Hid (Boxed K2 (w.heap.size + 1 + 1 + 1 + 1) 3 (.int .i64 (p0 : Int))) := Lib.hid (HO1.out.kept (below_grownBy hb none) (by simp))
   have HK2 : Hid (K2.heap[D]? = some (.deferred (some []))) := Lib.hid ((hb.block D (Array.getElem?_eq_some_iff.1 HK1.out).1).trans HK1.out)
   have Hb2 := Lib.hid (Hb1.out.trans (hb.mono Hb1.out.size))
   clear hb
   try dsimp only
   refine hK.out _ _ ?_ (fun hHeld => ?_)
   ·exact HO2.out.cell
   clear hK K
   try simp only [Act.put, List.setIfInBounds_toArray, List.set_cons_zero, List.set_cons_succ]
   refine wpAnyH_ready (rs := [3]) (by kernel_rfl) (by simp) ?_
   refine AllReadyH.cons (iatLS (iatSS (iatSS (iatSS iatZS)))) (fun K hK => ?_) AllReadyH.nil
   have hzz : ¬ 9223372036854775807 < s1.size + s2.size := by omega
   go_simp
   clear hzz
   refine hK.out _ _ ?_ (fun hHeld => ?_)
   ·exact HO2.out.cell
   clear hK K
   try simp only [Act.put, List.setIfInBounds_toArray, List.set_cons_zero, List.set_cons_succ]
   refine wpAnyH_ready (rs := [4]) (by kernel_rfl) (by simp) ?_
   refine AllReadyH.cons (iatLS (iatSS (iatSS (iatSS (iatSS iatZS))))) (fun K hK => ?_) AllReadyH.nil
   go_simp
   refine hK.out _ _ ?_ (fun hHeld => ?_)
   ·exact HO2.out.cell
   clear hK K
   try simp only [Act.put, List.setIfInBounds_toArray, List.set_cons_zero, List.set_cons_succ]
   refine wpAnyH_done (by kernel_rfl) ?_ _
   gi_wp2_with (fail)
   refine ⟨by simp, .inl ⟨_, _, rfl, run_takeDeferred HK2.out, ?_⟩⟩
   refine ⟨.string (s1 ++ s2), ?_, ?_, Hb2.out.trans ((Below.refl w.heap.size _).grown (grownBy_putObj' _ D (.deferred none)) (by have := Hb2.out.size; omega) (fun k e => by cases e; omega))⟩
   ·simp [results, Try.f93, go_sem]
   ·rw [HXs.out]
end Go.Proofs.Ythogiakfbgehnaa
namespace Go.Proofs.Ythogiakfbgehnaa
open Go.RowKit Go.Maps
attribute [local go_sem] Oper.semAt_some
def e13D (h : Nat) : CfD := ⟨[⟨#[97]⟩, ⟨#[98]⟩], some ⟨h + 1, 0, none⟩, 2, [⟨#[83]⟩], some ⟨h + 1 + 1, 0, none⟩, 1, [⟨[⟨[0, -1, 1], some ⟨h + 1 + 1 + 1, 0, none⟩, 3⟩, ⟨[], none, 0⟩], some ⟨h + 1 + 1 + 1 + 1, 0, none⟩, 2⟩], some ⟨h + 1 + 1 + 1 + 1 + 1, 0, none⟩, 1⟩
def e13F : TrF := .cons ⟨0, 0, 0⟩ .nil (.cons ⟨-1, 0, 0⟩ (.cons ⟨0, 0, 1⟩ .nil (.cons ⟨-1, 1, 0⟩ .nil (.cons ⟨1, 0, 2⟩ .nil .nil))) (.cons ⟨1, 0, 3⟩ .nil .nil))
def e13T : Tre := ⟨-1, 0, 0, e13F⟩
theorem e13_grow (h : Nat) : gwGrow (e13D h) [0, 0, 1] = .ok e13T 3 4 19993 := by kernel_rfl
def e13P : List NdT := (TrF.cons ⟨-1, 0, 0⟩ e13F .nil).pre true 1
theorem e13_ok (h : Nat) : ∀ q r, q ++ r = (TrF.cons ⟨-1, 0, 0⟩ e13F .nil).pre true 1 → TxOk (txAll (e13D h) q) := by
 intro q r hqr
 have h1 : q = e13P.take q.length := by
  have : e13P.take q.length = q := by show ((TrF.cons ⟨-1, 0, 0⟩ e13F .nil).pre true 1).take q.length = q; rw [← hqr]; simp
  exact this.symm
 have h2 : q.length ≤ 7 := by
  have := congrArg List.length hqr
  rw [List.length_append] at this
  have h3 : ((TrF.cons ⟨-1, 0, 0⟩ e13F .nil).pre true 1).length = 7 := by kernel_rfl
  omega
 rw [h1]
 generalize q.length = k at h2
 have hk : k = 0 ∨ k = 1 ∨ k = 2 ∨ k = 3 ∨ k = 4 ∨ k = 5 ∨ k = 6 ∨ k = 7 := by omega
 unfold TxOk
 rcases hk with rfl | rfl | rfl | rfl | rfl | rfl | rfl | rfl <;> exact of_decide_eq_true (by kernel_rfl)
theorem e13_lo : ∀ x ∈ (TrF.cons ⟨-1, 0, 0⟩ e13F .nil).pre true 1, -9223372036854775808 ≤ x.h.k ∧ 1 ≤ x.d ∧ x.d ≤ 1000 := by
 have h : ((TrF.cons ⟨-1, 0, 0⟩ e13F .nil).pre true 1).all (fun x => decide (-9223372036854775808 ≤ x.h.k) && decide (1 ≤ x.d) && decide (x.d ≤ 1000)) = true := by kernel_rfl
 intro x hx
 have := List.all_eq_true.1 h x hx
 simp only [Bool.and_eq_true, decide_eq_true_eq] at this
 exact ⟨this.1.1, this.1.2, this.2⟩
theorem e13_txt (h : Nat) : txT (e13D h) ((TrF.cons ⟨-1, 0, 0⟩ e13F .nil).pre true 1) = [83, 40, 97, 32, 83, 40, 97, 32, 83, 40, 41, 32, 98, 41, 32, 98, 41] := by kernel_rfl
theorem e13_yt : (TrF.cons ⟨-1, 0, 0⟩ e13F .nil).yt = [0, 0, 1, 1] := by kernel_rfl
theorem e13_st : (TrF.cons ⟨-1, 0, 0⟩ e13F .nil).st = [0, 0, 1] := by kernel_rfl
theorem e13_ya : (TrF.cons ⟨-1, 0, 0⟩ e13F .nil).ya = rngI 0 4 := by kernel_rfl
theorem e13_sz : e13F.size = 6 := by kernel_rfl
theorem e13_chk (h : Nat) : ChkD (e13D h) ⟨-1, 0, 0⟩ e13F [0, 0, 1, 1] := by
 refine ⟨rfl, (good_pre (e13D h) _ _ 1).2 ⟨rfl, fun x hx => ?_⟩, e13_yt, e13_ya⟩
 have h1 : ((TrF.cons ⟨-1, 0, 0⟩ e13F .nil).pre true 1).all (fun x => rightD (e13D h) x.h x.kids) = true := by kernel_rfl
 exact List.all_eq_true.1 h1 x hx
theorem e13_rng (h : Nat) : ∀ r ∈ (e13D h).alts, ∀ a ∈ r.ds, ∀ x ∈ a.l, -9223372036854775808 ≤ x ∧ x ≤ 9223372036854775807 := by
 have h1 : (e13D h).alts.all (fun r => r.ds.all (fun a => a.l.all (fun x => decide (-9223372036854775808 ≤ x) && decide (x ≤ 9223372036854775807)))) = true := by kernel_rfl
 intro r hr a ha x hx
 have := List.all_eq_true.1 (List.all_eq_true.1 (List.all_eq_true.1 h1 r hr) a ha) x hx
 simp only [Bool.and_eq_true, decide_eq_true_eq] at this
 exact this
def e13C (h : Nat) : Obj := .cells #[.slice (some ⟨h + 1, 0, none⟩) 2 2, .slice (some ⟨h + 1 + 1, 0, none⟩) 1 1, .slice (some ⟨h + 1 + 1 + 1 + 1 + 1, 0, none⟩) 1 1] 25
def e13Os (h : Nat) : List Obj := [e13C h, .cells #[.string ⟨#[97]⟩, .string ⟨#[98]⟩] 9, .cells #[.string ⟨#[83]⟩] 9, .cells #[.int .i64 0, .int .i64 (-1), .int .i64 1] 3, .cells #[.slice (some ⟨h + 1 + 1 + 1, 0, none⟩) 3 3, .slice none 0 0] 35, .cells #[.slice (some ⟨h + 1 + 1 + 1 + 1, 0, none⟩) 2 2] 32]
set_option maxRecDepth 100000 in
theorem e13_c (w : World) : CfAt (allocs w (e13Os w.heap.size)) (e13D w.heap.size) := by
 refine ⟨allocs_vs _ w 1 _ _ rfl 2 rfl (e9_mx 2 (by omega)), allocs_vs _ w 2 _ _ rfl 1 rfl (e9_mx 1 (by omega)), allocs_vs _ w 5 _ _ rfl 1 rfl (e9_mx 1 (by omega)), fun r hr => ?_⟩
 have hr : r = ⟨[⟨[0, -1, 1], some ⟨w.heap.size + 1 + 1 + 1, 0, none⟩, 3⟩, ⟨[], none, 0⟩], some ⟨w.heap.size + 1 + 1 + 1 + 1, 0, none⟩, 2⟩ := by simpa [e13D] using hr
 subst hr
 refine ⟨allocs_vs _ w 4 _ _ rfl 2 rfl (e9_mx 2 (by omega)), fun d hd => ?_⟩
 have hd : d = ⟨[0, -1, 1], some ⟨w.heap.size + 1 + 1 + 1, 0, none⟩, 3⟩ ∨ d = ⟨[], none, 0⟩ := by simpa using hd
 rcases hd with rfl | rfl
 ·exact allocs_vs _ w 3 _ _ rfl 3 rfl (e9_mx 3 (by omega))
 ·exact Vs.nil _
set_option maxRecDepth 100000 in
set_option maxHeartbeats 4000000 in
theorem ab_any (w : World) : Calls Try.prog 92 #[] w fun e W => e = .returned (e13D w.heap.size).v ∧ CfAt W (e13D w.heap.size) ∧ Below w.heap.size w W := by
 go_enter Try.func92, Try.ntmps92
 go_wp2_with (fail)
 have hX := (allocs_at (e13Os w.heap.size) w 0 _ rfl)
 rw [Nat.add_zero] at hX
 exact bodyPost_ret (v := (e13D w.heap.size).v) (results_cell_row (p := 0) (ty := 25) rfl _ _ w.heap.size 25 #[.slice (some ⟨w.heap.size + 1, 0, none⟩) 2 2, .slice (some ⟨w.heap.size + 1 + 1, 0, none⟩) 1 1, .slice (some ⟨w.heap.size + 1 + 1 + 1 + 1 + 1, 0, none⟩) 1 1] (0, 0) _ rfl hX Try.underlying25 rfl (by kernel_rfl)) rfl ⟨rfl, e13_c w, allocs_below (e13Os w.heap.size) w⟩
/-- What is told of the example's tree, as values. -/
abbrev e13V (ga : Option Addr) (gc : Nat) : Value := .agg #[.int .i64 (-1), .int .i64 0, .int .i64 0, .slice ga 3 gc]
theorem grow13_any (h : Nat) (sa : Option Addr) (sc : Nat) (w : World) (hd : CfAt w (e13D h)) (hs : Ints w sa sc [0, 0, 1]) :
 Calls Try.prog 54 #[(e13D h).v, .slice sa 3 sc] w fun e W => ∃ ga gc, e = .returned (.tuple #[e13V ga gc, .int .i64 0, .int .i64 0]) ∧ TrS W (fun _ => True) ga gc e13F ∧ Below w.heap.size w W := by
 refine (tgrow_any (e13D h) sa sc [0, 0, 1] w hd (e13_rng h) hs).mono ?_
 rintro e W ⟨hb, hq⟩
 rw [e13_grow h] at hq
 obtain ⟨ga, gc, rfl, ht⟩ := hq
 exact ⟨ga, gc, rfl, ht.imp (fun _ _ _ => trivial), hb⟩
theorem yield13_any (ga : Option Addr) (gc : Nat) (w : World) (ht : TrS w (fun _ => True) ga gc e13F) :
 Calls Try.prog 53 #[e13V ga gc] w fun e W => ∃ ya yc, e = .returned (.slice ya 4 yc) ∧ Ints W ya yc [0, 0, 1, 1] ∧ Below w.heap.size w W := by
 have h := tyield_any ⟨-1, 0, 0⟩ e13F ga gc w ht (by rw [e13_sz]; omega)
 rw [e13_yt] at h
 refine Calls.mono h ?_
 rintro e W ⟨ya, yc, rfl, ho, hb⟩
 exact ⟨ya, yc, rfl, OwnKZ.vs ho, hb⟩
theorem steps13_any (ga : Option Addr) (gc : Nat) (w : World) (ht : TrS w (fun _ => True) ga gc e13F) :
 Calls Try.prog 55 #[e13V ga gc] w fun e W => ∃ ya yc, e = .returned (.slice ya 3 yc) ∧ Ints W ya yc [0, 0, 1] ∧ Below w.heap.size w W := by
 have h := tsteps_any ⟨-1, 0, 0⟩ e13F ga gc w ht (by rw [e13_sz]; omega)
 rw [e13_st] at h
 refine Calls.mono h ?_
 rintro e W ⟨ya, yc, rfl, ho, hb⟩
 exact ⟨ya, yc, rfl, OwnKZ.vs ho, hb⟩
theorem size13_any (ga : Option Addr) (gc : Nat) (w : World) (ht : TrS w (fun _ => True) ga gc e13F) :
 Calls Try.prog 58 #[e13V ga gc] w fun e W => e = .returned (.int .i64 7) ∧ Below w.heap.size w W := by
 have h := tsize_any ⟨-1, 0, 0⟩ e13F ga gc w ht (by rw [e13_sz]; omega)
 rw [e13_sz] at h
 exact h
theorem check13_any (h : Nat) (ga : Option Addr) (gc : Nat) (ka : Option Addr) (kc : Nat) (w : World) (hd : CfAt w (e13D h)) (ht : TrS w (fun _ => True) ga gc e13F) (hk : Ints w ka kc [0, 0, 1, 1]) :
 Calls Try.prog 52 #[(e13D h).v, e13V ga gc, .slice ka 4 kc] w fun e W => e = .returned (.bool true) ∧ Below w.heap.size w W := by
 have h := tcheck_any (e13D h) ⟨-1, 0, 0⟩ e13F ga gc ka kc [0, 0, 1, 1] w hd ht hk (by rw [e13_sz]; omega) (fun x hx => (e13_lo x hx).1)
 refine Calls.mono h ?_
 rintro e W ⟨b, rfl, hb, hw⟩
 rw [hb.2 (e13_chk _)]
 exact ⟨rfl, hw⟩
theorem text13_any (h : Nat) (ga : Option Addr) (gc : Nat) (w : World) (hd : CfAt w (e13D h)) (ht : TrS w (fun _ => True) ga gc e13F) :
 Calls Try.prog 93 #[(e13D h).v, e13V ga gc] w fun e W => e = .returned (.string ⟨#[83, 40, 97, 32, 83, 40, 97, 32, 83, 40, 41, 32, 98, 41, 32, 98, 41]⟩) ∧ Below w.heap.size w W := by
 have h := ttext_any (e13D h) ⟨-1, 0, 0⟩ e13F ga gc w hd ht (by rw [e13_sz]; omega) e13_lo (e13_ok h)
 rw [e13_txt] at h
 exact h
theorem si13_any (l : List Int) (n : Nat) (hn : l.length = n) (a b : Option Addr) (ac bc : Nat) (w : World) (ha : Ints w a ac l) (hb : Ints w b bc l) :
 Calls Try.prog 25 #[.slice a n ac, .slice b n bc] w fun e W => e = .returned (.bool true) ∧ Below w.heap.size w W := by
 subst hn
 have h := sameInts8_any a b ac bc l l w ha hb
 rw [decide_eq_true rfl] at h
 exact h
end Go.Proofs.Ythogiakfbgehnaa
