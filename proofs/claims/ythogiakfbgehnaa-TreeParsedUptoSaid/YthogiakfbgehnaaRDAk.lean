/- Texts joined: Jy We Wa Wb Jo Ju Jp Jq Jr Js Jt Wc Wd Wm Wn Wq Wr. -/
import Derived.Test.YthogiakfbgehnaaRDAj
import Derived.Test.YthogiakfbgehnaaRDAf
import Derived.Test.YthogiakfbgehnaaRDAg
import Derived.Test.YthogiakfbgehnaaRDAa
import Derived.OrdersHeld
import Derived.Deep.RegionHeld
set_option linter.unusedVariables false
set_option linter.unusedSimpArgs false
namespace Go.Proofs.Ythogiakfbgehnaa
open Go.RowKit
attribute [local go_sem] Oper.semAt_some
set_option maxRecDepth 100000 in
set_option maxHeartbeats 4000000 in
theorem refFewM_any (m9 : Nat) (hm9 : m9 ≤ 1000) (d : CfD) (w : World) (hd : CfAt w d) (hs : d.toks.length + d.names.length + szC (d.alts.map IrD.p) ≤ 1000000000000) :
 Calls Try.prog 50 #[d.v, .int .i64 (m9 : Int)] w fun e w' => e = .returned (.bool (decide (d.toks.length + d.names.length + szC (d.alts.map IrD.p) ≤ m9))) ∧ Below w.heap.size w w' := by
 obtain ⟨toks, dta, dtc, names, dna, dnc, al, daa, dac⟩ := d
 dsimp only [CfD.v] at hs ⊢
 have hA0 := Blk.new w 25 #[.slice dta toks.length dtc, .slice dna names.length dnc, .slice daa al.length dac]
 have hb0 : Below w.heap.size w (w.alloc (.cells #[.slice dta toks.length dtc, .slice dna names.length dnc, .slice daa al.length dac] 25)) := (Below.refl _ w).alloc (Nat.le_refl _) _
 have hRow := Lib.hid (hd.alts.grown hb0)
 have hRul := Lib.hid (fun r hr => (hd.rules r hr).grown hb0)
 have ham : al.length ≤ dac ∧ dac ≤ 9223372036854775807 := ⟨by have := hd.alts.le; rwa [List.length_map] at this, hd.alts.max⟩
 obtain ⟨S, hS⟩ : ∃ q, Hid (szC (al.map IrD.p) = q) := ⟨_, Lib.hid rfl⟩
 obtain ⟨R, hR⟩ : ∃ R : Nat → Nat, Hid ((fun k => szC ((al.map IrD.p).take k)) = R) := ⟨_, Lib.hid rfl⟩
 have hR0 : Hid (R 0 = 0) := Lib.hid (by rw [← hR.out]; rfl)
 have hRl : Hid (∀ k, R k ≤ S) := Lib.hid (fun k => by rw [← hR.out, ← hS.out]; exact szC_le _ k)
 have hRe : Hid (R al.length = S) := Lib.hid (by rw [← hR.out, ← hS.out]; show szC (List.take al.length (al.map IrD.p)) = _; rw [List.take_of_length_le (by simp)])
 have hRs : Hid (∀ k (h : k < al.length), R (k + 1) = R k + szJ al[k].p) := Lib.hid (fun k h => by
  rw [← hR.out]
  have := szC_take (al.map IrD.p) k (by simpa using h)
  rw [List.getElem_map] at this
  exact this)
 rw [hS.out] at hs ⊢
 obtain ⟨M, hM⟩ : ∃ q, Hid (toks.length = q) := ⟨_, Lib.hid rfl⟩
 obtain ⟨N, hN⟩ : ∃ q, Hid (names.length = q) := ⟨_, Lib.hid rfl⟩
 obtain ⟨A, hA⟩ : ∃ q, Hid (al.length = q) := ⟨_, Lib.hid rfl⟩
 rw [hM.out, hN.out, hA.out] at hA0 hb0 hRow hRul ⊢
 rw [hM.out, hN.out] at hs
 rw [hA.out] at ham hRe
 obtain ⟨B, hB⟩ : ∃ q, Hid (decide (M + N + S ≤ m9) = q) := ⟨_, Lib.hid rfl⟩
 rw [hB.out]
 have y0 := hA0.cell 0
 have y1 := hA0.cell 1
 have y2 := hA0.cell 2
 have yl := hA0.lt
 simp only [List.getElem?_cons_zero, List.getElem?_cons_succ] at y0 y1 y2
 clear hd hA0
 go_enter Try.func50, Try.ntmps50
 go_wp2_with (fail)
 generalize hV : World.alloc w _ = W at hRow hRul hb0 y0 y1 y2 yl ⊢
 clear hV y0 y1 y2 yl
 go_loopw [5, 20] (fun s iv wr => ∃ (k n : Nat), k ≤ A ∧ iv = .int .i64 (k : Int) ∧ s = .int .i64 (n : Int) ∧ Hid (n = M + N + R k) ∧ wr = W) (fun _ iv _ => A - (RowKit.intOf iv).toNat)
 case atStart => exact ⟨0, M + N, Nat.zero_le _, rfl, by go_num, Lib.hid (by rw [hR0.out]; rfl), rfl⟩
 case round =>
  obtain ⟨k, n, hk, rfl, rfl, Hn, hwr⟩ := hrel
  subst hwr
  have hnl : n ≤ 1000000000000 := by have := Hn.out; have := hRl.out k; omega
  by_cases hlt : k < A
  ·have hkI : (k : Int) < (A : Int) := by omega
   have hkI0 : (0 : Int) ≤ (k : Int) := by omega
   have hka : k < al.length := by rw [hA.out]; exact hlt
   obtain ⟨b2, o2, rfl⟩ := hRow.out.at_ k (by rw [List.length_map]; exact hka)
   have d0 := hRow.out.cell b2 o2 rfl k (by rw [List.length_map]; exact hka)
   rw [List.getElem_map] at d0
   have hIq := hRul.out _ (List.getElem_mem hka)
   have hst := hRs.out k hka
   obtain ⟨q, hq⟩ : ∃ v, Hid (al[k] = v) := ⟨_, Lib.hid rfl⟩
   rw [hq.out] at d0 hIq hst
   unfold IrD.v at d0
   obtain ⟨qds, qa, qc⟩ := q
   dsimp only at d0 hIq hst
   obtain ⟨E, hE⟩ : ∃ q, Hid (qds.length = q) := ⟨_, Lib.hid rfl⟩
   rw [hE.out] at d0
   have hem : E ≤ qc ∧ qc ≤ 9223372036854775807 := ⟨by have := hIq.row.le; rwa [List.length_map, hE.out] at this, hIq.row.max⟩
   obtain ⟨J, hJ⟩ : ∃ J : Nat → Nat, Hid ((fun j => n + szJ ((IrD.p ⟨qds, qa, qc⟩).take j)) = J) := ⟨_, Lib.hid rfl⟩
   have hJ0 : Hid (J 0 = n) := Lib.hid (by rw [← hJ.out]; rfl)
   have hpl : (IrD.p ⟨qds, qa, qc⟩).length = qds.length := by unfold IrD.p; simp
   have hJe : Hid (J E = M + N + R (k + 1)) := Lib.hid (by rw [← hJ.out]; show n + szJ (List.take E (IrD.p ⟨qds, qa, qc⟩)) = _; rw [List.take_of_length_le (by rw [hpl, hE.out]; exact Nat.le_refl _), hst, Hn.out]; omega)
   have hJl : Hid (∀ j, J j ≤ M + N + S) := Lib.hid (fun j => by
    have h1 := szJ_le (IrD.p ⟨qds, qa, qc⟩) j
    have h2 := hRl.out (k + 1)
    have h3 := Hn.out
    rw [← hJ.out]
    show n + szJ ((IrD.p ⟨qds, qa, qc⟩).take j) ≤ _
    omega)
   have hJs : Hid (∀ j (h : j < qds.length), J (j + 1) = J j + (1 + qds[j].l.length)) := Lib.hid (fun j h => by
    rw [← hJ.out]
    have h1 := szJ_take (IrD.p ⟨qds, qa, qc⟩) j (by rw [hpl]; exact h)
    have h2 : (IrD.p ⟨qds, qa, qc⟩)[j]'(by rw [hpl]; exact h) = qds[j].l := by simp [IrD.p]
    rw [h2] at h1
    show n + szJ ((IrD.p ⟨qds, qa, qc⟩).take (j + 1)) = n + szJ ((IrD.p ⟨qds, qa, qc⟩).take j) + (1 + qds[j].l.length)
    omega)
   have HI := Lib.hid hIq
   have hbl := World.block_lt_of_cell? _ _ d0
   clear hIq hst hpl
   go_wp2_with (fail)
   clear d0 hbl
   obtain ⟨W8, rfl⟩ : ∃ W8, W8 = wr := ⟨_, rfl⟩
   go_loopw [5, 26] (fun s iv wr => ∃ (j m : Nat), j ≤ E ∧ iv = .int .i64 (j : Int) ∧ s = .int .i64 (m : Int) ∧ Hid (m = J j) ∧ wr = W8) (fun _ iv _ => E - (RowKit.intOf iv).toNat)
   case atStart => exact ⟨0, n, Nat.zero_le _, rfl, rfl, Lib.hid hJ0.out.symm, rfl⟩
   case round =>
    obtain ⟨j, m, hj, rfl, rfl, Hm, hwr⟩ := hrel
    subst hwr
    have hml : m ≤ 1000000000000 := by have := Hm.out; have := hJl.out j; omega
    by_cases hlt2 : j < E
    ·have hjI : (j : Int) < (E : Int) := by omega
     have hjI0 : (0 : Int) ≤ (j : Int) := by omega
     have hje : j < qds.length := by rw [hE.out]; exact hlt2
     obtain ⟨b4, o4, rfl⟩ := HI.out.row.at_ j (by rw [List.length_map]; exact hje)
     have f0 := HI.out.row.cell b4 o4 rfl j (by rw [List.length_map]; exact hje)
     rw [List.getElem_map] at f0
     have hst := hJs.out j hje
     have hjb := hJl.out (j + 1)
     unfold IltD.v at f0
     obtain ⟨u, hu⟩ : ∃ q, Hid (qds[j].l.length = q) := ⟨_, Lib.hid rfl⟩
     rw [hu.out] at f0 hst
     generalize qds[j].a = ua at f0
     generalize qds[j].c = uc at f0
     have hbl := World.block_lt_of_cell? _ _ f0
     have hmu : m + (1 + u) ≤ M + N + S := by rw [hst, ← Hm.out] at hjb; exact hjb
     have Hst : Hid (m + (1 + u) = J (j + 1)) := Lib.hid (by rw [hst, Hm.out])
     clear hst hjb
     by_cases hbig : m9 < m + (1 + u)
     ·have hbI : (m9 : Int) < (m : Int) + (1 + (u : Int)) := by omega
      have hBf : Hid (B = false) := Lib.hid (by rw [← hB.out, decide_eq_false_iff_not]; omega)
      go_wp2_with (fail)
      exact bodyPost_ret (v := .bool false) (by simp [results, Try.results50, go_sem]; try first | rfl | assumption | omega) rfl ⟨by rw [hBf.out], hb0⟩
     ·have hbI : ¬ (m9 : Int) < (m : Int) + (1 + (u : Int)) := by omega
      go_wp2_with (fail)
      exact ⟨⟨j + 1, m + (1 + u), by omega, by go_num, by go_num, Hst, by first | rfl | trivial⟩, by simp [RowKit.intOf]; omega⟩
    ·obtain rfl : j = E := by omega
     have hjI : ¬ (j : Int) < (j : Int) := by omega
     go_wp2_with (fail)
     exact ⟨⟨k + 1, m, by omega, by go_num, rfl, Lib.hid (by rw [Hm.out, hJe.out]), by first | rfl | trivial⟩, by simp [RowKit.intOf]; omega⟩
  ·obtain rfl : k = A := by omega
   have hkI : ¬ (k : Int) < (k : Int) := by omega
   have hT : Hid (B = decide (n ≤ m9)) := Lib.hid (by rw [← hB.out, Hn.out, hRe.out])
   by_cases hle : n ≤ m9
   ·have hI : (n : Int) ≤ m9 := by omega
    have hBt : Hid (B = true) := Lib.hid (by rw [hT.out, decide_eq_true hle])
    go_wp2_with (fail)
    exact bodyPost_ret (v := .bool true) (by simp [results, Try.results50, go_sem]; try first | rfl | assumption | omega) rfl ⟨by rw [hBt.out], hb0⟩
   ·have hI : ¬ (n : Int) ≤ m9 := by omega
    have hBt : Hid (B = false) := Lib.hid (by rw [hT.out, decide_eq_false hle])
    go_wp2_with (fail)
    exact bodyPost_ret (v := .bool false) (by simp [results, Try.results50, go_sem]; try first | rfl | assumption | omega) rfl ⟨by rw [hBt.out], hb0⟩
end Go.Proofs.Ythogiakfbgehnaa
namespace Go.Proofs.Ythogiakfbgehnaa
open Go.RowKit Go.Maps
attribute [local go_sem] Oper.semAt_some
end Go.Proofs.Ythogiakfbgehnaa
namespace Go.Proofs.Ythogiakfbgehnaa
open Go.RowKit Go.Maps
attribute [local go_sem] Oper.semAt_some
end Go.Proofs.Ythogiakfbgehnaa
namespace Go.Proofs.Ythogiakfbgehnaa
end Go.Proofs.Ythogiakfbgehnaa
namespace Go.Proofs.Ythogiakfbgehnaa
open Go.RowKit Go.Maps
attribute [local go_sem] Oper.semAt_some
end Go.Proofs.Ythogiakfbgehnaa
namespace Go.Proofs.Ythogiakfbgehnaa
open Go.RowKit Go.Maps
section
variable {P : Program} {ops : Array Oper} {Q : Exit → Act → World → Prop} {md : Region.Mode} {S : World → Prop} {z : Nat}
/-- In whatever order; S holds till operation z is on the list. -/
def wpTill (P : Program) (md : Region.Mode) (ops : Array Oper) (Q : Exit → Act → World → Prop) (z : Nat) (S : World → Prop) : Nat → Array Bool → Act → World → Prop
 | 0, L, a, w => Region.ready md ops L = [] ∧ Q .normal a w
 | n + 1, L, a, w => (Region.ready md ops L = [] → Q .normal a w) ∧ ∀ i ∈ Region.ready md ops L, wpOp P ops Q i (fun b u => ((L.setIfInBounds i true).getD z true = false → S u) ∧ wpTill P md ops Q z S n (L.setIfInBounds i true) b u) a w
theorem any_of_till : ∀ (n : Nat) (L : Array Bool) (a : Act) (w : World), wpTill P md ops Q z S n L a w → wpAny P md ops Q n L a w
 | 0, _, _, _, h => h
 | n + 1, _, _, _, h => ⟨h.1, fun i hi => wpOp_mono (fun b u k => any_of_till n _ b u k.2) (h.2 i hi)⟩
/-- Whether one operation waits for another. -/
def waitsFor (md : Region.Mode) (ops : Array Oper) (z i : Nat) : Bool := (ops[z]?).any (fun o => o.after.any (fun e => Region.binds md e && e.on == i))
theorem waits_spec {z i : Nat} (h : waitsFor md ops z i = true) : ∀ oz, ops[z]? = some oz → ∃ e ∈ oz.after, Region.binds md e = true ∧ e.on = i := by
 intro oz hoz
 unfold waitsFor at h
 rw [hoz] at h
 obtain ⟨k, hk, h2⟩ := Array.any_eq_true.1 (show oz.after.any (fun e => Region.binds md e && e.on == i) = true from h)
 rw [Bool.and_eq_true, beq_iff_eq] at h2
 exact ⟨_, Array.getElem_mem hk, h2⟩
/-- Each of those that may come up. -/
def TillAll (P : Program) (md : Region.Mode) (ops : Array Oper) (Q : Exit → Act → World → Prop) (z : Nat) (S : World → Prop) (n : Nat) (L : Array Bool) (a : Act) (w : World) (rs : List Nat) : Prop :=
 ∀ i ∈ rs, wpOp P ops Q i (fun b u => ((L.setIfInBounds i true).getD z true = false → S u) ∧ wpTill P md ops Q z S n (L.setIfInBounds i true) b u) a w
theorem TillAll.nil {n : Nat} {L : Array Bool} {a : Act} {w : World} : TillAll P md ops Q z S n L a w [] := fun i h => absurd h List.not_mem_nil
theorem TillAll.cons {n : Nat} {L : Array Bool} {a : Act} {w : World} {i : Nat} {o : Oper} {rs : List Nat} (ho : ops[i]? = some o)
 (h : ∀ K : Act → World → Prop, Shut (∀ b u, ((L.setIfInBounds i true).getD z true = false → S u) → wpTill P md ops Q z S n (L.setIfInBounds i true) b u → K b u) → if Region.wanted o (yielded ops a.tmps) = true then Oper.wp P o a w K Q else K (a.put o.dst undef) w)
 (hs : TillAll P md ops Q z S n L a w rs) : TillAll P md ops Q z S n L a w (i :: rs) := by
 intro j hj
 rcases List.mem_cons.1 hj with e | hj
 ·rw [e]
  exact wpOp_step ho (fun K hK => h K (fun b u h1 h2 => hK b u ⟨h1, h2⟩))
 ·exact hs j hj
theorem till_ready {rs : List Nat} {n : Nat} {L : Array Bool} {a : Act} {w : World} (hr : Region.ready md ops L = rs) (hne : rs ≠ []) (h : TillAll P md ops Q z S n L a w rs) : wpTill P md ops Q z S (n + 1) L a w :=
 ⟨fun h0 => absurd (hr.symm.trans h0) hne, fun i hi => h i (hr ▸ hi)⟩
theorem till_done {L : Array Bool} {a : Act} {w : World} (hr : Region.ready md ops L = []) (h : Q .normal a w) : ∀ n, wpTill P md ops Q z S n L a w
 | 0 => ⟨hr, h⟩
 | _ + 1 => ⟨fun _ => h, fun i hi => absurd hi (by rw [hr]; exact List.not_mem_nil)⟩
theorem region_till {id : Nat} {a : Act} {w : World} (z : Nat) (S : World → Prop) (hm : P.follows .mixedOrders = true) (h : wpTill P .any ops Q z S ops.size (Array.replicate ops.size false) a w.drew) : (Code.region id ops true).wp P Q a w :=
 wp_region_any hm (any_of_till _ _ _ _ h)
end
end Go.Proofs.Ythogiakfbgehnaa
namespace Go.Proofs.Ythogiakfbgehnaa
open Go.RowKit Go.Maps
attribute [local go_sem] Oper.semAt_some
end Go.Proofs.Ythogiakfbgehnaa
namespace Go.Proofs.Ythogiakfbgehnaa
open Go.RowKit Go.Maps
attribute [local go_sem] Oper.semAt_some
/-- The row behind its first numbers. -/
theorem ints_drop {w : World} {b off cap : Nat} {s : List Int} (h : Ints w (some ⟨b, off, none⟩) cap s) (i : Nat) (hi : i ≤ s.length) : Ints w (some ⟨b, off + i, none⟩) (cap - i) (s.drop i) := by
 have hl := h.le
 rw [List.length_map] at hl
 have hm := h.max
 refine ⟨by rw [List.length_map, List.length_drop]; omega, by omega, fun e => (by cases e), fun j hj => ⟨b, off + i, rfl⟩, fun b2 off2 e j hj => ?_⟩
 rw [List.length_map, List.length_drop] at hj
 injection e with e
 injection e with e1 e2
 subst e1
 subst e2
 have := h.cell b off rfl (i + j) (by rw [List.length_map]; omega)
 rw [show off + i + j = off + (i + j) by omega, this]
 simp
theorem ints_end {w : World} {b off : Nat} (c : Nat) (hc : c ≤ 9223372036854775807) : Ints w (some ⟨b, off, none⟩) c [] := ⟨Nat.zero_le _, hc, fun e => (by cases e), fun i hi => absurd hi (Nat.not_lt_zero _), fun b2 off2 e i hi => absurd hi (Nat.not_lt_zero _)⟩
end Go.Proofs.Ythogiakfbgehnaa
namespace Go.Proofs.Ythogiakfbgehnaa
open Go.RowKit Go.Maps
attribute [local go_sem] Oper.semAt_some
theorem pair_nodup {l : List Int} (h : l.Pairwise (· < ·)) : l.Nodup := h.imp (fun h => by omega)
theorem ris_len {l : List Int} {P : Int → Prop} (h : Ris l P) (U : List Int) (hU : ∀ x, P x → x ∈ U) : l.length ≤ U.length := nodupLe l U (pair_nodup h.up) (fun x hx => hU x ((h.mem x).1 hx))
end Go.Proofs.Ythogiakfbgehnaa
namespace Go.Proofs.Ythogiakfbgehnaa
open Go.RowKit Go.Maps
attribute [local go_sem] Oper.semAt_some
end Go.Proofs.Ythogiakfbgehnaa
namespace Go.Proofs.Ythogiakfbgehnaa
open Go.RowKit Go.Maps
attribute [local go_sem] Oper.semAt_some
end Go.Proofs.Ythogiakfbgehnaa
namespace Go.Proofs.Ythogiakfbgehnaa
open Go.RowKit Go.Maps
attribute [local go_sem] Oper.semAt_some
/-- What is made one behind the other. -/
def allocs (w : World) : List Obj → World
 | [] => w
 | o :: os => allocs (w.alloc o) os
theorem allocs_below : ∀ (os : List Obj) (w : World), Below w.heap.size w (allocs w os)
 | [], w => Below.refl _ w
 | o :: os, w => (up1 w o).trans ((allocs_below os (w.alloc o)).mono (by simp))
theorem allocs_at : ∀ (os : List Obj) (w : World) (i : Nat) (o : Obj), os[i]? = some o → (allocs w os).heap[w.heap.size + i]? = some o
 | [], w, i, o, h => by cases h
 | p :: os, w, 0, o, h => by
  have e : p = o := by simpa using h
  subst e
  have := (allocs_below os (w.alloc p)).block w.heap.size (by simp)
  rw [Nat.add_zero]
  show (allocs (w.alloc p) os).heap[w.heap.size]? = some p
  rw [this]
  exact World.alloc_heap_new w p
 | p :: os, w, i + 1, o, h => by
  have := allocs_at os (w.alloc p) i o (by simpa using h)
  rw [show (w.alloc p).heap.size + i = w.heap.size + (i + 1) by simp; omega] at this
  exact this
theorem allocs_blk (os : List Obj) (w : World) (i : Nat) (xs : List Value) (e : TypeId) (h : os[i]? = some (.cells xs.toArray e)) : Blk (allocs w os) (w.heap.size + i) e xs := allocs_at os w i _ h
theorem allocs_vs (os : List Obj) (w : World) (i : Nat) (xs : List Value) (e : TypeId) (h : os[i]? = some (.cells xs.toArray e)) (n : Nat) (hn : xs.length = n) (hm : n ≤ maxLen) : Vs (allocs w os) (some ⟨w.heap.size + i, 0, none⟩) n xs := own_vals (e := e) (base := 0) ⟨by rw [hn, Nat.mul_one], .inr ⟨w.heap.size + i, n, xs.toArray, rfl, Nat.zero_le _, allocs_blk os w i xs e h, Nat.le_refl _, hm, by simp [hn], by rw [List.take_of_length_le (by simp [hn])]⟩⟩ hn.symm
theorem e9_mx (n : Nat) (h : n ≤ 10) : n ≤ maxLen := by unfold maxLen; omega
end Go.Proofs.Ythogiakfbgehnaa
namespace Go.Proofs.Ythogiakfbgehnaa
open Go.RowKit Go.Maps
attribute [local go_sem] Oper.semAt_some
end Go.Proofs.Ythogiakfbgehnaa
namespace Go.Proofs.Ythogiakfbgehnaa
open Go.RowKit Go.Maps
attribute [local go_sem] Oper.semAt_some
theorem OwnKZ.app {w : World} {base cap : Nat} {a : Option Addr} {l : List Int} (h : OwnKZ w base a cap l) (b : Option Addr) (bc : Nat) (m : List Int) (hm : Ints w b bc m) (ty : TypeId) (hn : l.length + m.length ≤ 1099511627780) (hb : base ≤ w.heap.size) :
 ∃ a' c' w', (Builtin.append_ #[35, 35] ty #[.slice a l.length cap, .slice b m.length bc]).run Try.prog w = .ok (.slice a' (l.length + m.length) c') w' ∧
  OwnKZ w' base a' c' (l ++ m) ∧ Below base w w' := by
 obtain ⟨i0, hi, hz0, hz1, hz2⟩ := info_parts info_keyZ
 cases b with
 | none =>
  have e0 := hm.nil_ rfl
  have hml : m = [] := by
   have := hm.le
   rw [e0] at this
   simpa using this
  subst e0
  subst hml
  exact ⟨a, cap, w, run_append_owned_none (P := Try.prog) w base _ ty _ i0 1 Try.underlying35 hi _ _ _ h, by simpa [OwnKZ] using h, Below.refl _ w⟩
 | some b' =>
  have hnew : ∀ j u, (m.map (Value.int .i64))[j]? = some u → w.cell? (b'.add j) = some u := by
   intro j u hj
   have hjl : j < (m.map (Value.int .i64)).length := (List.getElem?_eq_some_iff.1 hj).1
   obtain ⟨b2, off, e⟩ := hm.at_ j hjl
   have e := Option.some.inj e
   subst e
   have := hm.cell b2 off rfl j hjl
   rw [show (⟨b2, off, none⟩ : Addr).add j = ⟨b2, off + j, none⟩ from by unfold Addr.add; split <;> simp_all]
   exact this.trans ((List.getElem?_eq_getElem hjl).symm.trans hj)
  obtain ⟨v', w', hrun, ho, hg, _⟩ := run_append_own (P := Try.prog) w base 35 ty 3 i0 _ 1 8 Try.underlying35 hi hz0 hz1 hz2 rfl (by decide) _ l.length _ h b' m.length bc (m.map (Value.int .i64)) (by simp) hnew (fun u hu => by
   obtain ⟨x, _, rfl⟩ := List.mem_map.1 hu
   rfl) (by unfold maxLen; omega) (by omega) hb
  obtain ⟨a', cap', rfl⟩ := slice_of_own ho
  refine ⟨a', cap', w', hrun, ?_, belowAt hg (fun g e0 => (own_typ h g e0).1) hb⟩
  unfold OwnKZ
  rw [List.map_append, List.length_append]
  exact ho
end Go.Proofs.Ythogiakfbgehnaa
namespace Go.Proofs.Ythogiakfbgehnaa
open Go.RowKit Go.Maps
attribute [local go_sem] Oper.semAt_some
/-- What begins a list is a grammar's token. -/
theorem tok_near {d : CfD} (hf : FitC d) {f : Nat → Bool} {l : List Int} (hl : OkL d.toks.length d.alts.length l) {t : Int} (h : TokP (d.alts.map IrD.p) f l t) : 0 ≤ t ∧ t ≤ 100 := by
 have := rchd_near hf (fun x hx => ⟨(hl x hx).1, by have := (hl x hx).2; have := hf.t; omega⟩) h.2
 exact ⟨h.1, this.2⟩
theorem ris_len101 {l : List Int} {P : Int → Prop} (h : Ris l P) (hP : ∀ t, P t → 0 ≤ t ∧ t ≤ 100) : l.length ≤ 300 := by
 have := ris_len h (nearU 0) (fun x hx => nearU_mem.2 (by have := hP x hx; omega))
 have e : (nearU 0).length = 300 := by unfold nearU; rw [List.length_map, List.length_range]
 omega
theorem ris_take {y : List Int} {P : Int → Prop} {r : List Int} {k : Nat} (h : k < y.length) (hr : Ris r (fun t => P t ∨ t ∈ y.take k)) : Ris (withZ r y[k]) (fun t => P t ∨ t ∈ y.take (k + 1)) := by
 refine ⟨withZ_up hr.up, fun t => ?_⟩
 rw [withZ_mem, hr.mem t, List.take_add_one, List.getElem?_eq_getElem h, List.mem_append]
 constructor
 ·rintro ((h1 | h1) | h1)
  ·exact .inl h1
  ·exact .inr (.inl h1)
  ·exact .inr (.inr (by simp [h1]))
 ·rintro (h1 | h1 | h1)
  ·exact .inl (.inl h1)
  ·exact .inl (.inr h1)
  ·exact .inr (by simpa using h1)
end Go.Proofs.Ythogiakfbgehnaa
namespace Go.Proofs.Ythogiakfbgehnaa
open Go.RowKit Go.Maps
attribute [local go_sem] Oper.semAt_some
set_option maxRecDepth 100000 in
set_option maxHeartbeats 16000000 in
theorem rule9_any (d : CfD) (x : Int) (w : World) (hd : CfAt w d) (hx : -(d.alts.length : Int) ≤ x ∧ x ≤ 1000000000) (hl : d.alts.length ≤ 1000000) :
 Calls Try.prog 74 #[d.v, .int .i64 x] w fun e w' => e = .returned (.int .i64 (if x < 0 then ((ruL x : Nat) : Int) else -1)) ∧ Below w.heap.size w w' := by
 obtain ⟨xt, xta, xtc, xn, xna, xnc, xa, xaa, xac⟩ := d
 have hxm : xa.length ≤ xac ∧ xac ≤ 9223372036854775807 := ⟨by have := hd.alts.le; rwa [List.length_map] at this, hd.alts.max⟩
 dsimp only [CfD.v] at *
 have hb1 : Below w.heap.size w (w.alloc (.cells #[.slice xta xt.length xtc, .slice xna xn.length xnc, .slice xaa xa.length xac] 25)) := (Below.refl _ w).alloc (Nat.le_refl _) _
 have hA := Blk.new w 25 #[.slice xta xt.length xtc, .slice xna xn.length xnc, .slice xaa xa.length xac]
 obtain ⟨T, HT⟩ : ∃ q, Hid (xt.length = q) := ⟨_, Lib.hid rfl⟩
 obtain ⟨N, HN⟩ : ∃ q, Hid (xn.length = q) := ⟨_, Lib.hid rfl⟩
 obtain ⟨L, HL⟩ : ∃ q, Hid (xa.length = q) := ⟨_, Lib.hid rfl⟩
 rw [HT.out, HN.out, HL.out] at hA hb1
 rw [HT.out, HN.out, HL.out]
 have x0 := hA.cell 0
 have x1 := hA.cell 1
 have x2 := hA.cell 2
 have xl := hA.lt
 simp only [List.getElem?_cons_zero, List.getElem?_cons_succ] at x0 x1 x2
 have HA := Lib.hid hA
 have Hb1 := Lib.hid hb1
 rw [HL.out] at hxm hx hl
 clear hd hA hb1 HA
 by_cases h0 : x < 0
 ·rw [if_pos h0]
  obtain ⟨r, hr⟩ : ∃ r, Hid (ruL x = r) := ⟨_, Lib.hid rfl⟩
  have hxr : x = -1 - (r : Int) := by rw [← hr.out]; exact (of_ruL h0).symm
  rw [hr.out]
  clear hr
  subst hxr
  have hw : IntKind.i64.wrap (-1 - (-1 - (r : Int))) = (r : Int) := by rw [show (-1 - (-1 - (r : Int))) = (r : Int) by omega]; exact IntWalk.i64_in _ (by omega)
  have hI : (r : Int) < (L : Int) := by omega
  go_enter Try.func74, Try.ntmps74
  go_wp2_with (fail)
  exact bodyPost_ret (v := .int .i64 (r : Int)) (by simp [results, Try.results74, go_sem]; try first | rfl | assumption | omega) rfl ⟨rfl, Hb1.out⟩
 ·rw [if_neg h0]
  go_enter Try.func74, Try.ntmps74
  go_wp2_with (fail)
  exact bodyPost_ret (v := .int .i64 (-1)) (by simp [results, Try.results74, go_sem]; try first | rfl | assumption | omega) rfl ⟨rfl, Hb1.out⟩
set_option maxRecDepth 100000 in
set_option maxHeartbeats 16000000 in
theorem emp9_any (d : CfD) (s : List Int) (sa : Option Addr) (sc : Nat) (na : Option Addr) (nc : Nat) (f : Nat → Bool) (w : World) (hd : CfAt w d) (hs : Ints w sa sc s) (hn : BlsF w na nc d.alts.length f) (hx : ∀ x ∈ s, -(d.alts.length : Int) ≤ x ∧ x ≤ 1000000000) (hl : d.alts.length ≤ 1000000) :
 Calls Try.prog 61 #[d.v, .slice sa s.length sc, .slice na d.alts.length nc] w fun e w' => e = .returned (.bool (emp f s)) ∧ Below w.heap.size w w' := by
 have HR := Lib.hid (fun x (hx : -(d.alts.length : Int) ≤ x ∧ x ≤ 1000000000) W (hb : Below w.heap.size w W) => rule9_any d x W (hd.grown hb) hx hl)
 have hsm : s.length ≤ sc ∧ sc ≤ 9223372036854775807 := ⟨by have := hs.le; rwa [List.length_map] at this, hs.max⟩
 have hnm : d.alts.length ≤ nc ∧ nc ≤ 9223372036854775807 := ⟨by have := hn.le; simpa using this, hn.max⟩
 have Hs := Lib.hid hs
 have Hn := Lib.hid hn
 have Hx := Lib.hid hx
 obtain ⟨xt, xta, xtc, xn, xna, xnc, xa, xaa, xac⟩ := d
 dsimp only [CfD.v] at *
 have hb1 : Below w.heap.size w (w.alloc (.cells #[.slice xta xt.length xtc, .slice xna xn.length xnc, .slice xaa xa.length xac] 25)) := (Below.refl _ w).alloc (Nat.le_refl _) _
 have hA := Blk.new w 25 #[.slice xta xt.length xtc, .slice xna xn.length xnc, .slice xaa xa.length xac]
 obtain ⟨T, HT⟩ : ∃ q, Hid (xt.length = q) := ⟨_, Lib.hid rfl⟩
 obtain ⟨N, HN⟩ : ∃ q, Hid (xn.length = q) := ⟨_, Lib.hid rfl⟩
 obtain ⟨L, HL⟩ : ∃ q, Hid (xa.length = q) := ⟨_, Lib.hid rfl⟩
 rw [HT.out, HN.out, HL.out] at hA hb1
 rw [HT.out, HN.out, HL.out]
 have x0 := hA.cell 0
 have x1 := hA.cell 1
 have x2 := hA.cell 2
 have xl := hA.lt
 simp only [List.getElem?_cons_zero, List.getElem?_cons_succ] at x0 x1 x2
 have HA := Lib.hid hA
 have Hb1 := Lib.hid hb1
 obtain ⟨S, HS⟩ : ∃ q, Hid (s.length = q) := ⟨_, Lib.hid rfl⟩
 rw [HS.out] at hsm ⊢
 rw [HL.out] at hnm hl Hn Hx
 rw [HT.out, HN.out, HL.out] at HR
 obtain ⟨B, HB⟩ : ∃ q, Hid (emp f s = q) := ⟨_, Lib.hid rfl⟩
 rw [HB.out]
 clear hd hA hb1 hs hn hx
 go_enter Try.func61, Try.ntmps61
 go_wp2_with (fail)
 obtain ⟨bx, hbx⟩ : ∃ q, Hid (w.heap.size = q) := ⟨_, Lib.hid rfl⟩
 rw [hbx.out] at HA x0 x1 x2 xl ⊢
 generalize hV : World.alloc w _ = V at HA x0 x1 x2 xl Hb1 ⊢
 clear hV x0 x1 x2 xl
 go_loopw [12] (fun iv wr => ∃ k : Nat, k ≤ S ∧ iv = .int .i64 (k : Int) ∧ Hid (B = emp f (s.drop k)) ∧ Hid (Blk wr bx 25 [.slice xta T xtc, .slice xna N xnc, .slice xaa L xac]) ∧ Below w.heap.size w wr) (fun iv _ => S - (RowKit.intOf iv).toNat)
 case atStart => exact ⟨0, Nat.zero_le _, rfl, Lib.hid HB.out.symm, HA, Hb1.out⟩
 case round =>
  clear HA Hb1
  obtain ⟨k, hk, rfl, HE, HA, hbr⟩ := hrel
  obtain ⟨U, rfl⟩ : ∃ U, U = wr := ⟨_, rfl⟩
  by_cases hlt : k < S
  ·have hkI : (k : Int) < (S : Int) := by omega
   have hkI0 : (0 : Int) ≤ (k : Int) := by omega
   have hkl : k < s.length := by rw [HS.out]; exact hlt
   have hrow := Hs.out.grown hbr
   have hdr := List.drop_eq_getElem_cons hkl
   obtain ⟨b, bo, hb⟩ := hrow.at_ k (by rw [List.length_map]; exact hkl)
   have cb := hrow.cell b bo hb k (by rw [List.length_map]; exact hkl)
   rw [List.getElem_map] at cb
   have hm := Hx.out _ (List.getElem_mem hkl)
   obtain ⟨x, hx⟩ : ∃ v, Hid (s[k] = v) := ⟨_, Lib.hid rfl⟩
   rw [hx.out] at cb hm hdr
   have hblb := World.block_lt_of_cell? _ _ cb
   subst hb
   have x0 := HA.out.cell 0
   have x1 := HA.out.cell 1
   have x2 := HA.out.cell 2
   have xl := HA.out.lt
   simp only [List.getElem?_cons_zero, List.getElem?_cons_succ] at x0 x1 x2
   have HE2 : Hid (B = ((decide (x < 0) && f (ruL x)) && emp f (s.drop (k + 1)))) := Lib.hid (by rw [HE.out, hdr, emp_cons])
   have Hru := Lib.hid (HR.out x hm U hbr)
   clear hrow hdr
   by_cases h0 : x < 0
   ·rw [if_pos h0] at Hru
    rw [decide_eq_true h0, Bool.true_and] at HE2
    have hrL : ruL x < L := by unfold ruL; omega
    obtain ⟨r, hr⟩ : ∃ r, Hid (ruL x = r) := ⟨_, Lib.hid rfl⟩
    rw [hr.out] at Hru HE2 hrL
    have hrI : (r : Int) < (L : Int) := by omega
    have hrI0 : (0 : Int) ≤ (r : Int) := by omega
    go_wp2_with (fail)
    refine Hru.out.mono ?_
    rintro e w3 ⟨rfl, hb3⟩
    have Hb3 := Lib.hid (hbr.trans (hb3.mono hbr.size))
    have HA3 := Lib.hid (HA.out.below hb3 HA.out.lt)
    have hn3 := Vs.grown Hn.out Hb3.out
    obtain ⟨n0, no, hn0⟩ := hn3.at_ r (by simpa using hrL)
    have cn := hn3.cell n0 no hn0 r (by simpa using hrL)
    rw [range_at] at cn
    have hbln := World.block_lt_of_cell? _ _ cn
    subst hn0
    obtain ⟨q, hq⟩ : ∃ v, Hid (f r = v) := ⟨_, Lib.hid rfl⟩
    rw [hq.out] at cn HE2
    clear x0 x1 x2 xl hb3 hn3 hbr
    cases q
    ·have HBf : Hid (B = false) := Lib.hid (by rw [HE2.out]; rfl)
     go_wp2_with (fail)
     exact bodyPost_ret (v := .bool false) (by simp [results, Try.results61, go_sem]; try first | rfl | assumption | omega) rfl ⟨by rw [HBf.out], Hb3.out⟩
    ·have HBn : Hid (B = emp f (s.drop (k + 1))) := Lib.hid (by rw [HE2.out]; rfl)
     go_wp2_with (fail)
     exact ⟨⟨k + 1, by omega, by go_num, HBn, HA3, Hb3.out⟩, by simp [RowKit.intOf]; omega⟩
   ·rw [if_neg h0] at Hru
    rw [decide_eq_false h0, Bool.false_and, Bool.false_and] at HE2
    go_wp2_with (fail)
    refine Hru.out.mono ?_
    rintro e w3 ⟨rfl, hb3⟩
    have Hb3 := Lib.hid (hbr.trans (hb3.mono hbr.size))
    clear x0 x1 x2 xl hb3 hbr
    go_wp2_with (fail)
    exact bodyPost_ret (v := .bool false) (by simp [results, Try.results61, go_sem]; try first | rfl | assumption | omega) rfl ⟨by rw [HE2.out], Hb3.out⟩
  ·have hke : k = S := by omega
   have hkI : ¬ (k : Int) < (S : Int) := by omega
   have HBt : Hid (B = true) := Lib.hid (by rw [HE.out, List.drop_eq_nil_of_le (by rw [HS.out]; omega)]; rfl)
   clear hke
   go_wp2_with (fail)
   exact bodyPost_ret (v := .bool true) (by simp [results, Try.results61, go_sem]; try first | rfl | assumption | omega) rfl ⟨by rw [HBt.out], hbr⟩
set_option maxRecDepth 100000 in
set_option maxHeartbeats 16000000 in
theorem all9_any (l m : List Int) (a b : Option Addr) (ac bc : Nat) (P : Int → Prop) (w : World) (hl : Ints w a ac l) (hm : Ints w b bc m) (hr : Ris l P) (hP : ∀ t, P t → 0 ≤ t ∧ t ≤ 100) (hmr : ∀ t ∈ m, 0 ≤ t ∧ t ≤ 100) :
 Calls Try.prog 66 #[.slice a l.length ac, .slice b m.length bc] w fun e w' => ∃ oa oc, ∃ r : List Int, e = .returned (.slice oa r.length oc) ∧ Ints w' oa oc r ∧ Ris r (fun t => P t ∨ t ∈ m) ∧ (oa = a ∨ FrB w.heap.size oa) ∧ Below w.heap.size w w' := by
 have hmm : m.length ≤ bc ∧ bc ≤ 9223372036854775807 := ⟨by have := hm.le; rwa [List.length_map] at this, hm.max⟩
 obtain ⟨L, HL⟩ : ∃ q, Hid (l.length = q) := ⟨_, Lib.hid rfl⟩
 obtain ⟨M, HM⟩ : ∃ q, Hid (m.length = q) := ⟨_, Lib.hid rfl⟩
 rw [HM.out] at hmm ⊢
 rw [HL.out]
 have Hl := Lib.hid hl
 have Hm := Lib.hid hm
 have Hr := Lib.hid hr
 have HP := Lib.hid hP
 have Hmr := Lib.hid hmr
 clear hl hm hr hP hmr
 go_enter Try.func66, Try.ntmps66
 go_wp2_with (fail)
 go_loopw [0, 9] (fun sv iv wr => ∃ (k n : Nat) (oa : Option Addr) (oc : Nat) (r : List Int), k ≤ M ∧ iv = .int .i64 (k : Int) ∧ sv = .slice oa n oc ∧ Hid (n = r.length) ∧ Hid (Ints wr oa oc r) ∧ Hid (Ris r (fun t => P t ∨ t ∈ m.take k)) ∧ Hid (oa = a ∨ FrB w.heap.size oa) ∧ Below w.heap.size w wr) (fun _ iv _ => M - (RowKit.intOf iv).toNat)
 case atStart => exact ⟨0, L, a, ac, l, Nat.zero_le _, rfl, rfl, Lib.hid HL.out.symm, Hl, Lib.hid ⟨Hr.out.up, fun t => by rw [Hr.out.mem t]; simp⟩, Lib.hid (.inl rfl), Below.refl _ _⟩
 case round =>
  obtain ⟨k, n, oa, oc, r, hk, rfl, rfl, hn, HI, HR, HF, hbr⟩ := hrel
  obtain ⟨U, rfl⟩ : ∃ U, U = wr := ⟨_, rfl⟩
  by_cases hlt : k < M
  ·have hkI : (k : Int) < (M : Int) := by omega
   have hkI0 : (0 : Int) ≤ (k : Int) := by omega
   have hkl : k < m.length := by rw [HM.out]; exact hlt
   have hrow := Hm.out.grown hbr
   have HRn := Lib.hid (ris_take hkl HR.out)
   have hrl : r.length ≤ 300 := ris_len101 HR.out (fun t ht => ht.elim (HP.out t) (fun h => Hmr.out t (List.mem_of_mem_take h)))
   obtain ⟨b9, b9o, hb9⟩ := hrow.at_ k (by rw [List.length_map]; exact hkl)
   have cb9 := hrow.cell b9 b9o hb9 k (by rw [List.length_map]; exact hkl)
   rw [List.getElem_map] at cb9
   obtain ⟨x, hx⟩ : ∃ v, Hid (m[k] = v) := ⟨_, Lib.hid rfl⟩
   rw [hx.out] at cb9 HRn
   have hblb9 := World.block_lt_of_cell? _ _ cb9
   subst hb9
   have Hw := Lib.hid (with9_any r x oa oc U HI.out (by omega))
   rw [← hn.out] at Hw
   clear hrow hrl
   go_wp2_with (fail)
   refine Hw.out.mono ?_
   rintro e w9 ⟨⟨oa2, oc2, rfl, hi9, hf9⟩, hb9⟩
   have HI9 := Lib.hid hi9
   have HF9 : Hid (oa2 = a ∨ FrB w.heap.size oa2) := Lib.hid (by
    rcases hf9 with rfl | hf9
    ·exact HF.out
    ·exact .inr (fun b off e => Nat.le_trans hbr.size (hf9 b off e)))
   have Hb9 := Lib.hid (hbr.trans (hb9.mono hbr.size))
   clear hi9 hb9 hf9 Hw
   go_wp2_with (fail)
   exact ⟨⟨k + 1, _, oa2, oc2, _, by omega, by go_num, rfl, Lib.hid rfl, HI9, HRn, HF9, Hb9.out⟩, by simp [RowKit.intOf]; omega⟩
  ·have hke : k = M := by omega
   have hkI : ¬ (k : Int) < (M : Int) := by omega
   have HRe : Hid (Ris r (fun t => P t ∨ t ∈ m)) := Lib.hid (by have := HR.out; rwa [hke, List.take_of_length_le (by rw [HM.out]; exact Nat.le_refl _)] at this)
   have HFin : Hid (∃ oa' oc', ∃ r' : List Int, Ending.returned (.slice oa n oc) = .returned (.slice oa' r'.length oc') ∧ Ints U oa' oc' r' ∧ Ris r' (fun t => P t ∨ t ∈ m) ∧ (oa' = a ∨ FrB w.heap.size oa') ∧ Below w.heap.size w U) := Lib.hid ⟨oa, oc, r, by rw [hn.out], HI.out, HRe.out, HF.out, hbr⟩
   clear hke hbr
   go_wp2_with (fail)
   exact bodyPost_ret (v := .slice oa n oc) (by simp [results, Try.results66, go_sem]; try first | rfl | assumption | omega) rfl HFin.out
end Go.Proofs.Ythogiakfbgehnaa
namespace Go.Proofs.Ythogiakfbgehnaa
open Go.RowKit Go.Maps
attribute [local go_sem] Oper.semAt_some
/-- What begins a list, if so much begins each rule. -/
def ldQ (K : Nat → Int → Prop) (s : List Int) (t : Int) : Prop := ∃ y ∈ s, (0 ≤ y ∧ t = y) ∨ (y < 0 ∧ K (ruL y) t)
def ldP (K : Nat → Int → Prop) (f : Nat → Bool) (s : List Int) (t : Int) : Prop := ldQ K (ahd f s) t
theorem ldQ_app {K : Nat → Int → Prop} {s u : List Int} {t : Int} : ldQ K (s ++ u) t ↔ ldQ K s t ∨ ldQ K u t := by
 unfold ldQ
 constructor
 ·rintro ⟨y, hy, h⟩
  rcases List.mem_append.1 hy with hy | hy
  ·exact .inl ⟨y, hy, h⟩
  ·exact .inr ⟨y, hy, h⟩
 ·rintro (⟨y, hy, h⟩ | ⟨y, hy, h⟩)
  ·exact ⟨y, List.mem_append.2 (.inl hy), h⟩
  ·exact ⟨y, List.mem_append.2 (.inr hy), h⟩
theorem ldQ_one {K : Nat → Int → Prop} {x t : Int} : ldQ K [x] t ↔ (0 ≤ x ∧ t = x) ∨ (x < 0 ∧ K (ruL x) t) := by
 unfold ldQ
 simp
theorem ahd_at {f : Nat → Bool} {s : List Int} {k : Nat} (h : k < s.length) (he : emp f (s.take k) = true) (hx : (decide (s[k] < 0) && f (ruL s[k])) = false) : ahd f s = s.take k ++ [s[k]] := by
 have e : s = s.take k ++ s[k] :: s.drop (k + 1) := by rw [← List.drop_eq_getElem_cons h, List.take_append_drop]
 conv => lhs; rw [e]
 exact ahd_stop hx he
theorem emp_at {f : Nat → Bool} {s : List Int} {k : Nat} (h : k < s.length) (he : emp f (s.take k) = true) (hx : (decide (s[k] < 0) && f (ruL s[k])) = true) : emp f (s.take (k + 1)) = true := by
 rw [List.take_add_one, List.getElem?_eq_getElem h, emp_app, he]
 simpa [emp] using hx
theorem ris_or {P Q : Int → Prop} {r : List Int} (h : Ris r P) (e : ∀ t, P t ↔ Q t) : Ris r Q := ⟨h.up, fun t => (h.mem t).trans (e t)⟩
set_option maxRecDepth 100000 in
set_option maxHeartbeats 16000000 in
theorem lead9_any (d : CfD) (s : List Int) (sa : Option Addr) (sc : Nat) (na : Option Addr) (nc : Nat) (f : Nat → Bool) (ka : Option Addr) (kc : Nat) (ds : List IltD) (K : Nat → Int → Prop) (w : World) (hd : CfAt w d) (hs : Ints w sa sc s) (hn : BlsF w na nc d.alts.length f) (hx : ∀ x ∈ s, -(d.alts.length : Int) ≤ x ∧ x ≤ 100) (hl : d.alts.length ≤ 1000000) (hk : AltsI w ka kc ds) (hkl : ds.length = d.alts.length) (hK : ∀ r (h : r < ds.length), Ris ds[r].l (K r)) (hKb : ∀ r t, K r t → 0 ≤ t ∧ t ≤ 100) :
 Calls Try.prog 67 #[d.v, .slice sa s.length sc, .slice na d.alts.length nc, .slice ka ds.length kc] w fun e w' => ∃ oa oc, ∃ r : List Int, e = .returned (.slice oa r.length oc) ∧ Ints w' oa oc r ∧ Ris r (ldP K f s) ∧ Below w.heap.size w w' := by
 have HR := Lib.hid (fun x (hx : -(d.alts.length : Int) ≤ x ∧ x ≤ 1000000000) W (hb : Below w.heap.size w W) => rule9_any d x W (hd.grown hb) hx hl)
 have hsm : s.length ≤ sc ∧ sc ≤ 9223372036854775807 := ⟨by have := hs.le; rwa [List.length_map] at this, hs.max⟩
 have hnm : d.alts.length ≤ nc ∧ nc ≤ 9223372036854775807 := ⟨by have := hn.le; simpa using this, hn.max⟩
 have hkm : ds.length ≤ kc ∧ kc ≤ 9223372036854775807 := ⟨by have := hk.row.le; rwa [List.length_map] at this, hk.row.max⟩
 have Hs := Lib.hid hs
 have Hn := Lib.hid hn
 have Hx := Lib.hid hx
 have Hk := Lib.hid hk
 have HK := Lib.hid hK
 have HKb := Lib.hid hKb
 have Hkl := Lib.hid hkl
 obtain ⟨xt, xta, xtc, xn, xna, xnc, xa, xaa, xac⟩ := d
 dsimp only [CfD.v] at *
 rw [hkl] at hkm ⊢
 have hb1 : Below w.heap.size w (w.alloc (.cells #[.slice xta xt.length xtc, .slice xna xn.length xnc, .slice xaa xa.length xac] 25)) := (Below.refl _ w).alloc (Nat.le_refl _) _
 have hA := Blk.new w 25 #[.slice xta xt.length xtc, .slice xna xn.length xnc, .slice xaa xa.length xac]
 obtain ⟨T, HT⟩ : ∃ q, Hid (xt.length = q) := ⟨_, Lib.hid rfl⟩
 obtain ⟨N, HN⟩ : ∃ q, Hid (xn.length = q) := ⟨_, Lib.hid rfl⟩
 obtain ⟨L, HL⟩ : ∃ q, Hid (xa.length = q) := ⟨_, Lib.hid rfl⟩
 rw [HT.out, HN.out, HL.out] at hA hb1
 rw [HT.out, HN.out, HL.out]
 have x0 := hA.cell 0
 have x1 := hA.cell 1
 have x2 := hA.cell 2
 have xl := hA.lt
 simp only [List.getElem?_cons_zero, List.getElem?_cons_succ] at x0 x1 x2
 have HA := Lib.hid hA
 have Hb1 := Lib.hid hb1
 obtain ⟨S, HS⟩ : ∃ q, Hid (s.length = q) := ⟨_, Lib.hid rfl⟩
 rw [HS.out] at hsm ⊢
 rw [HL.out] at hnm hl Hn Hx hkm Hkl
 rw [HT.out, HN.out, HL.out] at HR
 clear hd hA hb1 hs hn hx hk hK hKb hkl
 go_enter Try.func67, Try.ntmps67
 go_wp2_with (fail)
 obtain ⟨bx, hbx⟩ : ∃ q, Hid (w.heap.size = q) := ⟨_, Lib.hid rfl⟩
 rw [hbx.out] at HA x0 x1 x2 xl ⊢
 generalize hV : World.alloc w _ = V at HA x0 x1 x2 xl Hb1 ⊢
 clear hV x0 x1 x2 xl
 go_loopw [9, 15] (fun sv iv wr => ∃ (k n : Nat) (oa : Option Addr) (oc : Nat) (r : List Int), k ≤ S ∧ iv = .int .i64 (k : Int) ∧ sv = .slice oa n oc ∧ Hid (n = r.length) ∧ Hid (Ints wr oa oc r) ∧ Hid (Ris r (ldQ K (s.take k))) ∧ Hid (emp f (s.take k) = true) ∧ Hid (Blk wr bx 25 [.slice xta T xtc, .slice xna N xnc, .slice xaa L xac]) ∧ Below w.heap.size w wr) (fun _ iv _ => S - (RowKit.intOf iv).toNat)
 case atStart => exact ⟨0, 0, none, 0, [], Nat.zero_le _, rfl, rfl, Lib.hid rfl, Lib.hid (Vs.nil _), Lib.hid ⟨List.Pairwise.nil, fun t => by simp [ldQ]⟩, Lib.hid rfl, HA, Hb1.out⟩
 case round =>
  clear HA Hb1
  obtain ⟨k, n, oa, oc, r, hk, rfl, rfl, hn, HI, Hr, HE, HA, hbr⟩ := hrel
  obtain ⟨U, rfl⟩ : ∃ U, U = wr := ⟨_, rfl⟩
  by_cases hlt : k < S
  ·have hkI : (k : Int) < (S : Int) := by omega
   have hkI0 : (0 : Int) ≤ (k : Int) := by omega
   have hkl : k < s.length := by rw [HS.out]; exact hlt
   have hrow := Hs.out.grown hbr
   have hst : s.take (k + 1) = s.take k ++ [s[k]] := by rw [List.take_add_one, List.getElem?_eq_getElem hkl]; rfl
   have hah : (decide (s[k] < 0) && f (ruL s[k])) = false → ahd f s = s.take k ++ [s[k]] := fun h => ahd_at hkl HE.out h
   have hem : (decide (s[k] < 0) && f (ruL s[k])) = true → emp f (s.take (k + 1)) = true := fun h => emp_at hkl HE.out h
   have hbd : ∀ t, ldQ K (s.take k) t → 0 ≤ t ∧ t ≤ 100 := fun t ht => by
    obtain ⟨y, hy, ⟨h1, rfl⟩ | ⟨_, h1⟩⟩ := ht
    ·exact ⟨h1, (Hx.out _ (List.mem_of_mem_take hy)).2⟩
    ·exact HKb.out _ t h1
   have Hbd := Lib.hid hbd
   obtain ⟨b, bo, hb⟩ := hrow.at_ k (by rw [List.length_map]; exact hkl)
   have cb := hrow.cell b bo hb k (by rw [List.length_map]; exact hkl)
   rw [List.getElem_map] at cb
   have hm := Hx.out _ (List.getElem_mem hkl)
   obtain ⟨x, hx⟩ : ∃ v, Hid (s[k] = v) := ⟨_, Lib.hid rfl⟩
   rw [hx.out] at cb hm hst hah hem
   have hblb := World.block_lt_of_cell? _ _ cb
   subst hb
   have x0 := HA.out.cell 0
   have x1 := HA.out.cell 1
   have x2 := HA.out.cell 2
   have xl := HA.out.lt
   simp only [List.getElem?_cons_zero, List.getElem?_cons_succ] at x0 x1 x2
   have Hah := Lib.hid hah
   have Hem := Lib.hid hem
   have Hst := Lib.hid hst
   have Hru := Lib.hid (HR.out x ⟨hm.1, by omega⟩ U hbr)
   clear hrow hst hah hem hbd
   by_cases h0 : x < 0
   ·rw [if_pos h0] at Hru
    rw [decide_eq_true h0, Bool.true_and] at Hah Hem
    have hge : ¬ (0 : Int) ≤ x := by omega
    have hrL : ruL x < L := by unfold ruL; omega
    have Hor : Hid (∀ t, (ldQ K (s.take k) t ∨ K (ruL x) t) ↔ ldQ K (s.take k ++ [x]) t) := Lib.hid (fun t => by
     rw [ldQ_app, ldQ_one]
     exact or_congr Iff.rfl ⟨fun h => .inr ⟨h0, h⟩, fun h => h.elim (fun h => absurd h.1 hge) (fun h => h.2)⟩)
    obtain ⟨ru, hru⟩ : ∃ r, Hid (ruL x = r) := ⟨_, Lib.hid rfl⟩
    rw [hru.out] at Hru Hah Hem hrL Hor
    have hrI : (ru : Int) < (L : Int) := by omega
    have hrI0 : (0 : Int) ≤ (ru : Int) := by omega
    go_wp2_with (fail)
    refine Hru.out.mono ?_
    rintro e w3 ⟨rfl, hb3⟩
    have Hb3 := Lib.hid (hbr.trans (hb3.mono hbr.size))
    have HA3 := Lib.hid (HA.out.below hb3 HA.out.lt)
    have HI3 := Lib.hid (HI.out.grown hb3)
    have hk3 := Hk.out.grown Hb3.out
    have hrd : ru < ds.length := by rw [Hkl.out]; exact hrL
    obtain ⟨k0, ko, hk0⟩ := hk3.row.at_ ru (by rw [List.length_map]; exact hrd)
    have ck := hk3.row.cell k0 ko hk0 ru (by rw [List.length_map]; exact hrd)
    rw [List.getElem_map] at ck
    have hki := hk3.nms _ (List.getElem_mem hrd)
    have hkr := HK.out ru hrd
    obtain ⟨u, hu⟩ : ∃ v, Hid (ds[ru] = v) := ⟨_, Lib.hid rfl⟩
    rw [hu.out] at ck hki hkr
    obtain ⟨ul, ua, uc⟩ := u
    change _ = some (Value.slice ua ul.length uc) at ck
    dsimp only at hki hkr
    have hblk := World.block_lt_of_cell? _ _ ck
    have Hall := Lib.hid (all9_any r ul oa ua oc uc (ldQ K (s.take k)) w3 HI3.out hki Hr.out Hbd.out (fun t ht => HKb.out _ t ((hkr.mem t).1 ht)))
    have Hkr := Lib.hid hkr
    rw [← hn.out] at Hall
    obtain ⟨UL, hUL⟩ : ∃ v, Hid (ul.length = v) := ⟨_, Lib.hid rfl⟩
    rw [hUL.out] at Hall ck
    subst hk0
    clear x0 x1 x2 xl hb3 hk3 hki hkr hbr
    go_wp2_with (fail)
    clear ck hblk
    refine Hall.out.mono ?_
    rintro e w4 ⟨oa2, oc2, r2, rfl, hi4, hr4, _, hb4⟩
    have HI4 := Lib.hid hi4
    have Hr4 : Hid (Ris r2 (ldQ K (s.take k ++ [x]))) := Lib.hid (ris_or hr4 (fun t => (or_congr Iff.rfl (Hkr.out.mem t)).trans (Hor.out t)))
    have Hb4 := Lib.hid (Hb3.out.trans (hb4.mono Hb3.out.size))
    have HA4 := Lib.hid (HA3.out.below hb4 HA3.out.lt)
    have hn4 := Vs.grown Hn.out Hb4.out
    obtain ⟨n0, no, hn0⟩ := hn4.at_ ru (by simpa using hrL)
    have cn := hn4.cell n0 no hn0 ru (by simpa using hrL)
    rw [range_at] at cn
    have hbln := World.block_lt_of_cell? _ _ cn
    subst hn0
    obtain ⟨q, hq⟩ : ∃ v, Hid (f ru = v) := ⟨_, Lib.hid rfl⟩
    rw [hq.out] at cn Hah Hem
    obtain ⟨n2, hn2⟩ : ∃ v, Hid (v = r2.length) := ⟨_, Lib.hid rfl⟩
    rw [← hn2.out]
    clear hi4 hr4 hb4 hn4
    cases q
    ·have hFin : Hid (∃ oa oc, ∃ r : List Int, Ending.returned (.slice oa2 n2 oc2) = .returned (.slice oa r.length oc) ∧ Ints w4 oa oc r ∧ Ris r (ldP K f s) ∧ Below w.heap.size w w4) := Lib.hid ⟨oa2, oc2, r2, by rw [hn2.out], HI4.out, by unfold ldP; rw [Hah.out rfl]; exact Hr4.out, Hb4.out⟩
     go_wp2_with (fail)
     exact bodyPost_ret (v := .slice oa2 n2 oc2) (by simp [results, Try.results67, go_sem]; try first | rfl | assumption | omega) rfl hFin.out
    ·have HEn : Hid (emp f (s.take (k + 1)) = true) := Lib.hid (Hem.out rfl)
     have HrN : Hid (Ris r2 (ldQ K (s.take (k + 1)))) := Lib.hid (by rw [Hst.out]; exact Hr4.out)
     go_wp2_with (fail)
     exact ⟨⟨k + 1, n2, oa2, oc2, r2, by omega, by go_num, rfl, hn2, HI4, HrN, HEn, HA4, Hb4.out⟩, by simp [RowKit.intOf]; omega⟩
   ·rw [if_neg h0] at Hru
    rw [decide_eq_false h0, Bool.false_and] at Hah
    have Hah2 := Lib.hid (Hah.out rfl)
    clear Hah Hem
    have hge : (0 : Int) ≤ x := by omega
    have Hor : Hid (∀ t, (ldQ K (s.take k) t ∨ t = x) ↔ ldQ K (s.take k ++ [x]) t) := Lib.hid (fun t => by
     rw [ldQ_app, ldQ_one]
     exact or_congr Iff.rfl ⟨fun h => .inl ⟨hge, h⟩, fun h => h.elim (fun h => h.2) (fun h => absurd h.1 h0)⟩)
    have hrl : r.length ≤ 300 := ris_len101 Hr.out Hbd.out
    go_wp2_with (fail)
    refine Hru.out.mono ?_
    rintro e w3 ⟨rfl, hb3⟩
    have Hb3 := Lib.hid (hbr.trans (hb3.mono hbr.size))
    have HI3 := Lib.hid (HI.out.grown hb3)
    have Hw := Lib.hid (with9_any r x oa oc w3 HI3.out (by omega))
    rw [← hn.out] at Hw
    clear x0 x1 x2 xl hb3 hrl hbr
    go_wp2_with (fail)
    refine Hw.out.mono ?_
    rintro e w4 ⟨⟨oa2, oc2, rfl, hi4, _⟩, hb4⟩
    have hFin : Hid (∃ oa oc, ∃ r' : List Int, Ending.returned (.slice oa2 (withZ r x).length oc2) = .returned (.slice oa r'.length oc) ∧ Ints w4 oa oc r' ∧ Ris r' (ldP K f s) ∧ Below w.heap.size w w4) := Lib.hid ⟨oa2, oc2, withZ r x, rfl, hi4, by unfold ldP; rw [Hah2.out]; exact ris_or (Hr.out.with_ x) Hor.out, Hb3.out.trans (hb4.mono Hb3.out.size)⟩
    clear hi4 hb4 Hw
    go_wp2_with (fail)
    exact bodyPost_ret (v := .slice oa2 (withZ r x).length oc2) (by simp [results, Try.results67, go_sem]; try first | rfl | assumption | omega) rfl hFin.out
  ·have hke : k = S := by omega
   have hkI : ¬ (k : Int) < (S : Int) := by omega
   have hFin : Hid (∃ oa' oc', ∃ r' : List Int, Ending.returned (.slice oa n oc) = .returned (.slice oa' r'.length oc') ∧ Ints U oa' oc' r' ∧ Ris r' (ldP K f s) ∧ Below w.heap.size w U) := Lib.hid (by
    have h1 := Hr.out
    have h2 := HE.out
    rw [hke, List.take_of_length_le (by rw [HS.out]; exact Nat.le_refl _)] at h1 h2
    exact ⟨oa, oc, r, by rw [hn.out], HI.out, by unfold ldP; rw [ahd_emp h2]; exact h1, hbr⟩)
   clear hke hbr
   go_wp2_with (fail)
   exact bodyPost_ret (v := .slice oa n oc) (by simp [results, Try.results67, go_sem]; try first | rfl | assumption | omega) rfl hFin.out
end Go.Proofs.Ythogiakfbgehnaa
