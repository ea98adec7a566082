/- Texts joined: Tz Tw Sp Xo Tx. -/
import Derived.Test.YthogiakfbgehnaaREAa
import Derived.TacticsInMore
import Derived.OwnWalkIn
import Derived.Sort.QuietIn
import Derived.StillTail
import Derived.StillTactics
import Derived.Test.YthogiakfbgehnaaREAo
import Derived.Ground.NamesProg
import Derived.Shelf.Strings.BuilderK
import Derived.Test.YthogiakfbgehnaaProg
import Derived.Shelf.Strings.Repeat
set_option linter.unusedVariables false
set_option linter.unusedSimpArgs false
namespace Go.Proofs.Ythogiakfbgehnaa
open Go.RowKit Go.Shelf

section
variable {P : Program} {ops : Array Oper} {md : Region.Mode} {w : World} {l n : Nat}

def noDeferT (ops : Array Oper) : Bool := ops.all fun o => match o.op with | .defer _ => false | _ => true
theorem noDefer_atT (h : noDeferT ops = true) {i : Nat} {o : Oper} (hi : ops[i]? = some o) : ∀ c, o.op ≠ .defer c := by
  intro c hc
  obtain ⟨hlt, e⟩ := Array.getElem?_eq_some_iff.1 hi
  have := (Array.all_eq_true.1 h) i hlt
  rw [e, hc] at this
  cases this

theorem wpInR_of_stillT {o : Oper} {a : Act} {K : Act → Prop} {K' : Act → World → Prop} {Q' : Exit → Act → World → Prop} (hnd : ∀ c, o.op ≠ .defer c) (h : ∀ a, K a → K' a w) (hh : o.still P a w K) : o.wpIn (Fence.wide.inRound l) n P a w K' Q' := by
  refine ⟨fun _ _ => trivial, ?_⟩
  rw [Oper.semAt_eq _ _ _ hnd]
  unfold Oper.still at hh
  generalize (execOp a.eval o).run P w = r at *
  cases r with
  | ok x w' =>
    cases x <;> simp only [Oper.stillUpon] at hh <;> simp only [Oper.uponIn]
    case enter f args =>
      obtain ⟨rfl, v, hc, hn⟩ := hh
      exact ⟨fun h => (by cases h), ((callsIn_wide (n := n - 1)).2 hc).mono fun e w'' ⟨he, hw⟩ => by subst he; subst hw; exact h _ hn⟩
    all_goals (obtain ⟨rfl, h2⟩ := hh; exact h _ h2)
  | halt x w' => simp only [Oper.stillUpon] at hh

theorem wpOpInR_of_stOpT (hnd : noDeferT ops = true) {i : Nat} {a : Act} {K : Act → Prop} {K' : Act → World → Prop} {Q' : Exit → Act → World → Prop} (h : ∀ a, K a → K' a w) (hh : stOp P ops w i K a) : wpOpIn (Fence.wide.inRound l) n P ops Q' i K' a w := by
  unfold stOp at hh
  unfold wpOpIn
  split
  · rename_i ho; simp only [ho] at hh; exact h _ hh
  · rename_i o ho
    simp only [ho] at hh
    split
    · rename_i hw; simp only [hw, if_true] at hh; exact wpInR_of_stillT (noDefer_atT hnd ho) h hh
    · rename_i hw; simp only [hw] at hh; exact ⟨fun _ _ => trivial, h _ hh⟩

theorem wpAnyInR_of_headT (hnd : noDeferT ops = true) {m g : Nat} {L : Array Bool → Act → Prop} {Q' : Exit → Act → World → Prop} (hL : ∀ listed a, L listed a → wpAnyIn (Fence.wide.inRound l) n P md ops Q' g listed a w) :
    ∀ (f : Nat) (listed : Array Bool) (a : Act), wpAnyL P md ops w m L f listed a → wpAnyIn (Fence.wide.inRound l) n P md ops Q' (f + g) listed a w
  | 0, listed, a, h => by rw [Nat.zero_add]; exact hL _ _ h
  | f + 1, listed, a, h => by
    rw [show f + 1 + g = (f + g) + 1 by omega]
    exact ⟨fun h0 => absurd h0 h.1, fun i hi => wpOpInR_of_stOpT hnd (fun a' h' => wpAnyInR_of_headT hnd hL f _ a' h') (h.2 i hi).2⟩

theorem wpAnyInR_of_seqT {Q' : Exit → Act → World → Prop} : ∀ (lo : List Oper) (k : Nat) (listed : Array Bool) (a : Act) (w : World), (∀ j, lo[j]? = ops[k + j]?) →
    Region.seqB md ops lo.length k listed = true → wpListIn (Fence.wide.inRound l) n P ops Q' lo a w → wpAnyIn (Fence.wide.inRound l) n P md ops Q' lo.length listed a w
  | [], _, _, _, _, _, hB, h => ⟨by simpa [Region.seqB] using hB, h⟩
  | o :: lo, k, listed, a, w, hl, hB, h => by
    have h0 : ops[k]? = some o := by simpa using (hl 0).symm
    simp only [List.length_cons, Region.seqB, Bool.and_eq_true, decide_eq_true_eq] at hB
    refine ⟨fun h1 => (by rw [hB.1] at h1; cases h1), fun i hi => ?_⟩
    rw [hB.1] at hi
    have hik : i = k := by simpa using hi
    subst hik
    have hw : wpOpIn (Fence.wide.inRound l) n P ops Q' i (wpListIn (Fence.wide.inRound l) n P ops Q' lo) a w := by unfold wpOpIn; simp only [h0]; exact h
    exact wpOpIn_mono (fun a' w' h' => wpAnyInR_of_seqT lo (i + 1) _ a' w' (fun j => by have := hl (j + 1); simpa [Nat.add_assoc, Nat.add_comm 1 j] using this) hB.2 h') hw

/-- All but the tail from m on only reads: the order of the text serves. -/
theorem wpInR_region_still_tailT {id : Nat} {Q : Exit → Act → World → Prop} {a : Act} {w : World} {lo : List Oper} (m : Nat) (hm : P.follows .mixedOrders = true) (hnd : noDeferT lo.toArray = true) (hB : Region.lexTailB .any lo.toArray m = true)
    (h : wpStill P lo.toArray w.drew (fun a' => wpListIn (Fence.wide.inRound l) n P lo.toArray Q (lo.drop m) a' w.drew) (lo.take m) a) : (Code.region id lo.toArray true).wpIn (Fence.wide.inRound l) n P Q a w := by
  simp only [Region.lexTailB, Bool.and_eq_true, decide_eq_true_eq] at hB
  obtain ⟨⟨⟨⟨hsel, hn⟩, hs⟩, hc⟩, hlex⟩ := hB
  have hn' : m < lo.length := by simpa using hn
  have htl : (lo.take m).length = m := by simp; omega
  have hdl : (lo.drop m).length = lo.toArray.size - m := by simp
  have inv0 : HeadInv .any lo.toArray m (Array.replicate lo.toArray.size false) :=
    ⟨by simp, fun j oj _ hl => (by rw [getD_replicate_false] at hl; cases hl), fun t _ ht => getD_in (by simpa using ht) (getD_replicate_false _ _)⟩
  have H := wpAnyL_lex (md := .any) (g := lo.toArray.size - m) hsel hs hc hn (lo.take m) 0 _ a (fun j hj => by
    have hj' : j < m := by rw [htl] at hj; exact hj
    simp [hj']) (by simpa using htl) inv0 (by rw [htl]; exact hlex) h
  refine wpIn_region_any hm ?_
  have := wpAnyInR_of_headT (l := l) (n := n) (Q' := Q) (g := lo.toArray.size - m) hnd (fun listed a' hL => by
    have := wpAnyInR_of_seqT (l := l) (n := n) (md := .any) (Q' := Q) (lo.drop m) m listed a' w.drew (fun j => by simp [List.getElem?_drop]) (by rw [hdl]; exact hL.1) hL.2
    rwa [hdl] at this) _ _ _ H
  rw [htl, show m + (lo.toArray.size - m) = lo.toArray.size by omega] at this
  exact this
end

section
variable {P : Program} {ops : Array Oper} {md : Region.Mode} {l n : Nat} {Q : Exit → Act → World → Prop}
theorem wpInR_of_wideT {o : Oper} {a : Act} {w : World} {K : Act → World → Prop} (hnd : ∀ c, o.op ≠ .defer c) (h : o.wpIn Fence.wide n P a w K Q) : o.wpIn (Fence.wide.inRound l) n P a w K Q := by
  obtain ⟨_, h2⟩ := h
  refine ⟨fun _ _ => trivial, ?_⟩
  rw [Oper.semAt_eq _ _ _ hnd] at h2 ⊢
  generalize (execOp a.eval o).run P w = r at *
  cases r with
  | ok x w' => cases x <;> exact h2
  | halt x w' => cases x <;> exact h2
theorem wpOpInR_of_wideT (hnd : noDeferT ops = true) {i : Nat} {a : Act} {w : World} {K : Act → World → Prop} (h : wpOpIn Fence.wide n P ops Q i K a w) : wpOpIn (Fence.wide.inRound l) n P ops Q i K a w := by
  unfold wpOpIn at *
  split
  · rename_i ho; simp only [ho] at h; exact h
  · rename_i o ho
    simp only [ho] at h
    split
    · rename_i hw; simp only [hw, if_true] at h; exact wpInR_of_wideT (noDefer_atT hnd ho) h
    · rename_i hw; simp only [hw] at h; exact ⟨fun _ _ => trivial, h.2⟩
theorem wpAnyInR_of_wideT (hnd : noDeferT ops = true) : ∀ (fuel : Nat) (listed : Array Bool) (a : Act) (w : World), wpAnyIn Fence.wide n P md ops Q fuel listed a w → wpAnyIn (Fence.wide.inRound l) n P md ops Q fuel listed a w
  | 0, _, _, _, h => h
  | fuel + 1, _, _, _, h => ⟨h.1, fun i hi => wpOpInR_of_wideT hnd (wpOpIn_mono (fun a w => wpAnyInR_of_wideT hnd fuel _ a w) (h.2 i hi))⟩
/-- All of it only reads, calls besides. -/
theorem wpInR_quietT {id : Nat} {a : Act} {w : World} {lo : List Oper} (hm : P.follows .mixedOrders = true) (hnd : noDeferT lo.toArray = true) (hB : Region.lexB .any lo.toArray = true)
    (h : wpQuietIn Fence.wide n P lo.toArray (fun w' => ∃ n, w' = w.drewN n) (fun a' => ∀ w', (∃ n, w' = w.drewN n) → Q .normal a' w') lo a) : (Code.region id lo.toArray true).wpIn (Fence.wide.inRound l) n P Q a w := by
  simp only [Region.lexB, Bool.and_eq_true] at hB
  refine wpIn_region_any hm (wpAnyInR_of_wideT hnd _ _ _ _ (wpAnyIn_of_quiet (F := Fence.wide) (C := fun w' => ∃ n, w' = w.drewN n) (Q := fun a' => ∀ w', (∃ n, w' = w.drewN n) → Q .normal a' w') rfl (fun _ w' hw' h => h w' hw') _ _ _ _ ⟨1, rfl⟩ ?_))
  have := wpAnyQIn_lex (F := Fence.wide) (n := n) (C := fun w' => ∃ n, w' = w.drewN n) (md := .any) hB.1 lo 0 (Array.replicate lo.toArray.size false) a (by simp) (by simpa using hB.2) h
  simpa using this
end
end Go.Proofs.Ythogiakfbgehnaa

namespace Go.Proofs.Ythogiakfbgehnaa
open Go.RowKit Go.Maps

attribute [local go_sem] Oper.semAt_some

theorem ChkM.res_set {w W : World} {cv : Array Value} {tv : Value} (h : ChkM w W cv tv) : ChkM w (W.setCell ⟨w.heap.size + 1 + 1 + 1, 0, none⟩ (.bool false)) cv tv := by
  have hg := grownBy_set W (w.heap.size + 1 + 1 + 1) 0 (.bool false)
  have hb : Boxed W (w.heap.size + 1 + 1 + 1) 4 (.bool false) := h.res
  refine ⟨h.bel.setCell (p := ⟨w.heap.size + 1 + 1 + 1, 0, none⟩) (by simp; omega) _, (hg.block _ (Array.getElem?_eq_some_iff.1 h.cfg).1 (fun e => ?_)).trans h.cfg, (hg.block _ (Array.getElem?_eq_some_iff.1 h.tks).1 (fun e => ?_)).trans h.tks, hb.set (.bool false)⟩
  · have := Option.some.inj e; omega
  · have := Option.some.inj e; omega
theorem KeepsFrom.dNT {B : Nat} {W W' : World} (h : KeepsFrom B W W') (n : Nat) : KeepsFrom B W (W'.drewN n) := ⟨h.1, h.2⟩
theorem Spares.dNT {B : Nat} {T : TypeId → Bool} {W W' : World} (h : Spares B T W W') (n : Nat) : Spares B T W (W'.drewN n) := ⟨below_drewN h.below n, h.same⟩
theorem ChkM.dNT {w W : World} {cv : Array Value} {tv : Value} (h : ChkM w W cv tv) (n : Nat) : ChkM w (W.drewN n) cv tv := ⟨below_drewN h.bel n, h.cfg, h.tks, h.res⟩
theorem ChkM.cnt_set {w W : World} {cv : Array Value} {tv : Value} (h : ChkM w W cv tv) (v : Value) : ChkM w (W.setCell ⟨w.heap.size + 1 + 1 + 1 + 1, 0, none⟩ v) cv tv := by
  have hg := grownBy_set W (w.heap.size + 1 + 1 + 1 + 1) 0 v
  refine ⟨h.bel.setCell (p := ⟨w.heap.size + 1 + 1 + 1 + 1, 0, none⟩) (by simp; omega) _, (hg.block _ (Array.getElem?_eq_some_iff.1 h.cfg).1 (fun e => ?_)).trans h.cfg, (hg.block _ (Array.getElem?_eq_some_iff.1 h.tks).1 (fun e => ?_)).trans h.tks, (hg.block _ (Array.getElem?_eq_some_iff.1 h.res).1 (fun e => ?_)).trans h.res⟩
  · have := Option.some.inj e; omega
  · have := Option.some.inj e; omega
  · have := Option.some.inj e; omega
set_option maxRecDepth 100000 in
set_option maxHeartbeats 16000000 in
theorem tcheck_any (d : CfD) (h : TrH) (kids : TrF) (a : Option Addr) (cap : Nat) (ka : Option Addr) (kc : Nat) (toks : List Int) (w : World) (hd : CfAt w d) (hI : TrS w (fun _ => True) a cap kids) (hT : Ints w ka kc toks) (hN : kids.size ≤ 1099511627770) (hlo : ∀ x ∈ (TrF.cons h kids .nil).pre true 1, -9223372036854775808 ≤ x.h.k) :
    Calls Try.prog 52 #[d.v, treV h a kids.len cap, .slice ka toks.length kc] w fun e W => ∃ b, e = .returned (.bool b) ∧ (b = true ↔ ChkD d h kids toks) ∧ Below w.heap.size w W := by
  obtain ⟨hk, hi, ha⟩ := h
  have hlm : kids.len ≤ cap ∧ cap ≤ 9223372036854775807 := ⟨hI.le, hI.max⟩
  have hlt : toks.length ≤ kc ∧ kc ≤ 9223372036854775807 := ⟨by have := hT.le; rwa [List.length_map] at this, hT.max⟩
  have Hd := Lib.hid hd
  have HI := Lib.hid hI
  have HTk := Lib.hid hT
  have hdv : d.v = .agg #[.slice d.ta d.toks.length d.tc, .slice d.na d.names.length d.nc, .slice d.aa d.alts.length d.ac] := rfl
  obtain ⟨xta, hxta⟩ : ∃ q, Hid (d.ta = q) := ⟨_, Lib.hid rfl⟩
  obtain ⟨xna, hxna⟩ : ∃ q, Hid (d.na = q) := ⟨_, Lib.hid rfl⟩
  obtain ⟨xaa, hxaa⟩ : ∃ q, Hid (d.aa = q) := ⟨_, Lib.hid rfl⟩
  obtain ⟨xtc, hxtc⟩ : ∃ q, Hid (d.tc = q) := ⟨_, Lib.hid rfl⟩
  obtain ⟨xnc, hxnc⟩ : ∃ q, Hid (d.nc = q) := ⟨_, Lib.hid rfl⟩
  obtain ⟨xac, hxac⟩ : ∃ q, Hid (d.ac = q) := ⟨_, Lib.hid rfl⟩
  obtain ⟨T, HT⟩ : ∃ q, Hid (d.toks.length = q) := ⟨_, Lib.hid rfl⟩
  obtain ⟨N, HN⟩ : ∃ q, Hid (d.names.length = q) := ⟨_, Lib.hid rfl⟩
  obtain ⟨L, HL⟩ : ∃ q, Hid (d.alts.length = q) := ⟨_, Lib.hid rfl⟩
  rw [hxta.out, hxna.out, hxaa.out, hxtc.out, hxnc.out, hxac.out, HT.out, HN.out, HL.out] at hdv
  obtain ⟨KL, HKL⟩ : ∃ q, Hid (kids.len = q) := ⟨_, Lib.hid rfl⟩
  obtain ⟨TL, HTL⟩ : ∃ q, Hid (toks.length = q) := ⟨_, Lib.hid rfl⟩
  rw [HKL.out] at hlm ⊢
  rw [HTL.out] at hlt ⊢
  have HD := Lib.hid (fun V => derived_any ⟨hk, hi, ha⟩ a KL cap V)
  have HRT := Lib.hid (fun (nh : TrH) (kf : TrF) (xa : Option Addr) (xcap : Nat) (V : World) (hV : Below w.heap.size w V) (hks : TrS w (fun _ => True) xa xcap kf) (hlk : -9223372036854775808 ≤ nh.k) => right_any d nh kf xa xcap V (Hd.out.grown hV) (hks.grown hV) hlk)
  rw [hdv] at HRT ⊢
  clear hd hI hT hdv
  by_cases h0 : hk = -1
  · subst h0
    refine (callsIn_wide (n := 0)).1 ?_
    refine callsIn_of_wp_marks Try.func52 rfl trivial ?_ rfl
    simp only [Try.ntmps52, List.size_toArray, List.length_cons, List.length_nil, Nat.reduceAdd, Nat.reduceSub, Array.replicate_succ, Array.replicate_zero, List.push_toArray, List.append_toArray, List.nil_append, List.cons_append]
    gi_wp2_with (fail)
    refine ⟨trivial, rfl, ((callsIn_wide (n := 0)).2 (HD.out _)).mono ?_⟩
    rintro e w' ⟨rfl, rfl⟩
    gi_wp2_with (fail)
    unfold derW
    clear HD
    have hbel : Below w.heap.size w ((((((((w.alloc (.cells #[.slice xta T xtc, .slice xna N xnc, .slice xaa L xac] 25)).alloc (.cells #[.int .i64 (-1), .int .i64 hi, .int .i64 ha, .slice a KL cap] 51)).alloc (.cells #[.slice ka TL kc] 35)).alloc (.cells #[.bool false] 4)).alloc (.cells #[.int .i64 0] 3)).alloc (.cells #[.int .i64 (-1), .int .i64 hi, .int .i64 ha, .slice a KL cap] 51)).alloc (.cells #[.int .i64 (-1), .int .i64 hi, .int .i64 ha, .slice a KL cap] 51)).alloc (.cells #[inVT 131] 135)) := ((((((((Below.refl _ w).alloc (Nat.le_refl _) _).alloc (by simp) _).alloc (by simp; omega) _).alloc (by simp; omega) _).alloc (by simp; omega) _).alloc (by simp; omega) _).alloc (by simp; omega) _).alloc (by simp; omega) _
    have hB3 := (Blk.new ((((((w.alloc (.cells #[.slice xta T xtc, .slice xna N xnc, .slice xaa L xac] 25)).alloc (.cells #[.int .i64 (-1), .int .i64 hi, .int .i64 ha, .slice a KL cap] 51)).alloc (.cells #[.slice ka TL kc] 35)).alloc (.cells #[.bool false] 4)).alloc (.cells #[.int .i64 0] 3)).alloc (.cells #[.int .i64 (-1), .int .i64 hi, .int .i64 ha, .slice a KL cap] 51)) 51 #[.int .i64 (-1), .int .i64 hi, .int .i64 ha, .slice a KL cap]).alloc (.cells #[inVT 131] 135)
    have hBi := World.alloc_heap_new (((((((w.alloc (.cells #[.slice xta T xtc, .slice xna N xnc, .slice xaa L xac] 25)).alloc (.cells #[.int .i64 (-1), .int .i64 hi, .int .i64 ha, .slice a KL cap] 51)).alloc (.cells #[.slice ka TL kc] 35)).alloc (.cells #[.bool false] 4)).alloc (.cells #[.int .i64 0] 3)).alloc (.cells #[.int .i64 (-1), .int .i64 hi, .int .i64 ha, .slice a KL cap] 51)).alloc (.cells #[.int .i64 (-1), .int .i64 hi, .int .i64 ha, .slice a KL cap] 51)) (.cells #[inVT 131] 135)
    simp only [World.size_alloc] at hB3 hBi
    have hM : ChkM w ((((((((w.alloc (.cells #[.slice xta T xtc, .slice xna N xnc, .slice xaa L xac] 25)).alloc (.cells #[.int .i64 (-1), .int .i64 hi, .int .i64 ha, .slice a KL cap] 51)).alloc (.cells #[.slice ka TL kc] 35)).alloc (.cells #[.bool false] 4)).alloc (.cells #[.int .i64 0] 3)).alloc (.cells #[.int .i64 (-1), .int .i64 hi, .int .i64 ha, .slice a KL cap] 51)).alloc (.cells #[.int .i64 (-1), .int .i64 hi, .int .i64 ha, .slice a KL cap] 51)).alloc (.cells #[inVT 131] 135)) #[.slice xta T xtc, .slice xna N xnc, .slice xaa L xac] (.slice ka TL kc) := by
      refine ⟨hbel, ?_, ?_, ?_⟩
      · exact ((((((((Blk.new w 25 #[.slice xta T xtc, .slice xna N xnc, .slice xaa L xac]).alloc _).alloc _).alloc _).alloc _).alloc _).alloc _).alloc _)
      · have := (Boxed.new ((w.alloc (.cells #[.slice xta T xtc, .slice xna N xnc, .slice xaa L xac] 25)).alloc (.cells #[.int .i64 (-1), .int .i64 hi, .int .i64 ha, .slice a KL cap] 51)) 35 (.slice ka TL kc))
        simp only [World.size_alloc] at this
        exact ((((this.alloc _).alloc _).alloc _).alloc _).alloc _
      · have := (Boxed.new (((w.alloc (.cells #[.slice xta T xtc, .slice xna N xnc, .slice xaa L xac] 25)).alloc (.cells #[.int .i64 (-1), .int .i64 hi, .int .i64 ha, .slice a KL cap] 51)).alloc (.cells #[.slice ka TL kc] 35)) 4 (.bool false))
        simp only [World.size_alloc] at this
        exact (((this.alloc _).alloc _).alloc _).alloc _
    have hc0 : Boxed ((((((((w.alloc (.cells #[.slice xta T xtc, .slice xna N xnc, .slice xaa L xac] 25)).alloc (.cells #[.int .i64 (-1), .int .i64 hi, .int .i64 ha, .slice a KL cap] 51)).alloc (.cells #[.slice ka TL kc] 35)).alloc (.cells #[.bool false] 4)).alloc (.cells #[.int .i64 0] 3)).alloc (.cells #[.int .i64 (-1), .int .i64 hi, .int .i64 ha, .slice a KL cap] 51)).alloc (.cells #[.int .i64 (-1), .int .i64 hi, .int .i64 ha, .slice a KL cap] 51)).alloc (.cells #[inVT 131] 135)) (w.heap.size + 1 + 1 + 1 + 1) 3 (.int .i64 0) := by
      have := (Boxed.new ((((w.alloc (.cells #[.slice xta T xtc, .slice xna N xnc, .slice xaa L xac] 25)).alloc (.cells #[.int .i64 (-1), .int .i64 hi, .int .i64 ha, .slice a KL cap] 51)).alloc (.cells #[.slice ka TL kc] 35)).alloc (.cells #[.bool false] 4)) 3 (.int .i64 0))
      simp only [World.size_alloc] at this
      exact ((this.alloc _).alloc _).alloc _
    have hws : (((((((((w.alloc (.cells #[.slice xta T xtc, .slice xna N xnc, .slice xaa L xac] 25)).alloc (.cells #[.int .i64 (-1), .int .i64 hi, .int .i64 ha, .slice a KL cap] 51)).alloc (.cells #[.slice ka TL kc] 35)).alloc (.cells #[.bool false] 4)).alloc (.cells #[.int .i64 0] 3)).alloc (.cells #[.int .i64 (-1), .int .i64 hi, .int .i64 ha, .slice a KL cap] 51)).alloc (.cells #[.int .i64 (-1), .int .i64 hi, .int .i64 ha, .slice a KL cap] 51)).alloc (.cells #[inVT 131] 135))).heap.size = w.heap.size + 1 + 1 + 1 + 1 + 1 + 1 + 1 + 1 := by simp
    rw [show derV (((((w.alloc (.cells #[.slice xta T xtc, .slice xna N xnc, .slice xaa L xac] 25)).alloc (.cells #[.int .i64 (-1), .int .i64 hi, .int .i64 ha, .slice a KL cap] 51)).alloc (.cells #[.slice ka TL kc] 35)).alloc (.cells #[.bool false] 4)).alloc (.cells #[.int .i64 0] 3)) = .func (.func 143) #[] #[.pointer (some ⟨w.heap.size + 1 + 1 + 1 + 1 + 1 + 1, 0, none⟩), .pointer (some ⟨w.heap.size + 1 + 1 + 1 + 1 + 1 + 1 + 1, 0, none⟩)] from by unfold derV; simp only [World.size_alloc]]
    generalize ((((((((w.alloc (.cells #[.slice xta T xtc, .slice xna N xnc, .slice xaa L xac] 25)).alloc (.cells #[.int .i64 (-1), .int .i64 hi, .int .i64 ha, .slice a KL cap] 51)).alloc (.cells #[.slice ka TL kc] 35)).alloc (.cells #[.bool false] 4)).alloc (.cells #[.int .i64 0] 3)).alloc (.cells #[.int .i64 (-1), .int .i64 hi, .int .i64 ha, .slice a KL cap] 51)).alloc (.cells #[.int .i64 (-1), .int .i64 hi, .int .i64 ha, .slice a KL cap] 51)).alloc (.cells #[inVT 131] 135)) = wl at hbel hB3 hBi hM hc0 hws ⊢
    have Hws := Lib.hid hws
    have Hlo := Lib.hid hlo
    clear hws hlo
    refine range_law (T := itTT) (n₀ := w.heap.size) (encs := encsT) (Good := GoodT w (TrF.pre true 1 (.cons ⟨-1, hi, ha⟩ kids .nil))) (Full := FullT (TrF.pre true 1 (.cons ⟨-1, hi, ha⟩ kids .nil))) (gf := 143) (lb := #[.pointer (some ⟨w.heap.size + 1 + 1 + 1 + 1 + 1 + 1, 0, none⟩), .pointer (some ⟨w.heap.size + 1 + 1 + 1 + 1 + 1 + 1 + 1, 0, none⟩)]) rfl (enters_of Try.func143 (by kernel_rfl) rfl)
      hbel.size (all_walksD w wl (w.heap.size + 1 + 1 + 1 + 1 + 1 + 1) (w.heap.size + 1 + 1 + 1 + 1 + 1 + 1 + 1) ⟨-1, hi, ha⟩ kids a cap HI.out hbel (by omega) (hB3.cell 0) (hB3.cell 1) (hB3.cell 2) (by rw [HKL.out]; exact hB3.cell 3) hBi) (fun _ => rfl)
      (ChkI d toks w #[.slice xta T xtc, .slice xna N xnc, .slice xaa L xac] (.slice ka TL kc)) (ChkX d ⟨-1, hi, ha⟩ kids toks w #[.slice xta T xtc, .slice xna N xnc, .slice xaa L xac] (.slice ka TL kc))
      ?bI ?bIx ?h0 ?round ?done ?stop
    case bI => exact bears_chk d toks w _ _ _ hbel.size
    case bIx => exact bears_chx d _ kids toks w _ _ _ hbel.size
    case h0 => exact ⟨hM, 0, ChkP.nil _ _, hc0⟩
    case round =>
      rintro l pre ⟨⟨dd, nh, kf⟩, xa, xcap⟩ W hl ⟨r, hr⟩ hI hgood
      have hI0 := hI
      obtain ⟨hM, c, hp, hcb⟩ := hI
      have hpre : ∃ r, (pre.map (·.nd) ++ [⟨dd, nh, kf⟩]) ++ r = (TrF.pre true 1 (.cons ⟨-1, hi, ha⟩ kids .nil)) := by
        obtain ⟨⟨q, hq⟩, -⟩ := hgood
        exact ⟨q, by rw [← hq, List.map_append]; rfl⟩
      have hks : TrS w (fun _ => True) xa xcap kf := hgood.2 ⟨⟨dd, nh, kf⟩, xa, xcap⟩ (by simp)
      have hlk : -9223372036854775808 ≤ nh.k := Hlo.out ⟨dd, nh, kf⟩ (by obtain ⟨r, hr⟩ := hpre; rw [← hr]; simp)
      have HPre := Lib.hid hpre
      clear hpre hgood hp hcb hM
      obtain ⟨nk, ni, na⟩ := nh
      have hws : w.heap.size + 8 ≤ wl.heap.size := by have := Hws.out; omega
      have hlW : l < W.heap.size := (Array.getElem?_eq_some_iff.1 hr).1
      dsimp only [encsT, treV]
      obtain ⟨ln, hln⟩ : ∃ q, Hid (kf.len = q) := ⟨_, Lib.hid rfl⟩
      rw [hln.out]
      gi_wp2_with (fail)
      refine ⟨(KeepsOthers.alloc W _).from _, Spares.grown (World.grownBy_alloc W _ none) hI0.1.bel.size (fun r e => by cases e), fun W2 hg2 => ?_⟩
      have hJ : ChkI d toks w #[.slice xta T xtc, .slice xna N xnc, .slice xaa L xac] (.slice ka TL kc) pre W2 := by
        refine bears_chk d toks w _ _ _ hbel.size pre _ _ (some l) ((bears_chk d toks w _ _ _ hbel.size).alloc _ hI0) hg2 (fun r e => ?_)
        cases e
        exact ⟨hl, _, (Below.heap_alloc _ _ _ hlW).trans hr, .inl rfl⟩
      have hx := (Blk.new W 51 #[.int .i64 nk, .int .i64 ni, .int .i64 na, .slice xa ln xcap]).kept hg2 (by simp; omega)
      obtain ⟨hM, c, hp, hcb⟩ := hJ
      have hC2 : Blk W2 (w.heap.size) 25 [.slice xta T xtc, .slice xna N xnc, .slice xaa L xac] := hM.cfg
      have hW2s : W.heap.size < W2.heap.size := hx.lt
      have x0 := hx.cell 0
      have x1 := hx.cell 1
      have x2 := hx.cell 2
      have x3 := hx.cell 3
      have z0 := hC2.cell 0
      have z1 := hC2.cell 1
      have z2 := hC2.cell 2
      simp only [List.getElem?_cons_zero, List.getElem?_cons_succ] at x0 x1 x2 x3 z0 z1 z2
      have hRT := HRT.out ⟨nk, ni, na⟩ kf xa xcap W2 hM.bel hks hlk
      dsimp only [treV] at hRT
      rw [hln.out] at hRT
      obtain ⟨Rb, hRb⟩ : ∃ q, Hid (rightD d ⟨nk, ni, na⟩ kf = q) := ⟨_, Lib.hid rfl⟩
      rw [hRb.out] at hRT
      have HRt := Lib.hid hRT
      have HX := Lib.hid hx
      have HM := Lib.hid hM
      have Hp := Lib.hid hp
      have HC := Lib.hid hcb
      have zl : w.heap.size < W2.heap.size := by have := hM.bel.size; have := hI0.1.bel.size; omega
      clear hx hg2 hr hI0 hlW hM hp hcb hC2 hRT
      gi_wp2_with (fail)
      refine ⟨trivial, rfl, ((callsIn_wide (n := 0)).2 HRt.out).mono ?_⟩
      rintro e w3 ⟨rfl, hb3⟩
      have hX3 := HX.out.below hb3 HX.out.lt
      have hM3 : ChkM w w3 #[.slice xta T xtc, .slice xna N xnc, .slice xaa L xac] (.slice ka TL kc) := HM.out.grown (Nat.le_refl _) (below_grownBy hb3 none) (fun r e => by cases e)
      have hc3 : Boxed w3 (w.heap.size + 1 + 1 + 1 + 1) 3 (.int .i64 (c : Int)) := keep_heap (B := 0) HC.out (by decide) (below_grownBy hb3 none) (fun r e => by cases e)
      have hk3 : KeepsFrom wl.heap.size W2 w3 := KeepsFrom.of_grownBy (below_grownBy hb3 none) (fun r e => by cases e)
      have hs3 : Spares w.heap.size itTT W2 w3 := Spares.grown (below_grownBy hb3 none) HM.out.bel.size (fun r e => by cases e)
      clear x0 x1 x2 x3 z0 z1 z2 zl HRt
      have y0 := hX3.cell 0
      have y1 := hX3.cell 1
      have y2 := hX3.cell 2
      have y3 := hX3.cell 3
      have yl := hX3.lt
      simp only [List.getElem?_cons_zero, List.getElem?_cons_succ] at y0 y1 y2 y3
      cases Rb with
      | false =>
        have hr3 : Boxed w3 (w.heap.size + 1 + 1 + 1) 4 (.bool false) := hM3.res
        have k1 := hr3.cell
        have f1 := hr3.frozen
        have hbad : ¬ ChkD d ⟨-1, hi, ha⟩ kids toks := Hp.out.bad HPre.out (.inl hRb.out)
        have HE : Hid (KeepsFrom wl.heap.size W2 (w3.setCell ⟨w.heap.size + 1 + 1 + 1, 0, none⟩ (.bool false)) ∧ ChkX d ⟨-1, hi, ha⟩ kids toks w #[.slice xta T xtc, .slice xna N xnc, .slice xaa L xac] (.slice ka TL kc) (pre ++ [⟨⟨dd, ⟨nk, ni, na⟩, kf⟩, xa, xcap⟩]) (w3.setCell ⟨w.heap.size + 1 + 1 + 1, 0, none⟩ (.bool false))) := Lib.hid (⟨(hk3).trans ((KeepsOthers.setCell w3 _ _).from _), (hM3).res_set, hbad⟩)
        clear hbad hM3 hc3 hk3 hs3 hr3
        gi_wp2_with (fail)
        exact HE.out
      | true =>
        have HIT := Lib.hid (isTok_any ⟨nk, ni, na⟩ xa ln xcap w3)
        have hb23 := hb3
        gi_wp2_with (fail)
        refine ⟨trivial, rfl, ((callsIn_wide (n := 0)).2 HIT.out).mono ?_⟩
        rintro e w4 ⟨rfl, hb4⟩
        have hX4 := hX3.below hb4 hX3.lt
        have hM4 : ChkM w w4 #[.slice xta T xtc, .slice xna N xnc, .slice xaa L xac] (.slice ka TL kc) := hM3.grown (Nat.le_refl _) (below_grownBy hb4 none) (fun r e => by cases e)
        have hc4 : Boxed w4 (w.heap.size + 1 + 1 + 1 + 1) 3 (.int .i64 (c : Int)) := keep_heap (B := 0) hc3 (by decide) (below_grownBy hb4 none) (fun r e => by cases e)
        have hk4 : KeepsFrom wl.heap.size W2 w4 := hk3.trans (KeepsFrom.of_grownBy (below_grownBy hb4 none) (fun r e => by cases e))
        have hs4 : Spares w.heap.size itTT W2 w4 := hs3.trans (Spares.grown (below_grownBy hb4 none) hM3.bel.size (fun r e => by cases e))
        clear y0 y1 y2 y3 yl HIT hX3 hM3 hc3 hk3 hs3 hb23 hb3 hb4
        have y0 := hX4.cell 0
        have y2 := hX4.cell 2
        have yl := hX4.lt
        simp only [List.getElem?_cons_zero, List.getElem?_cons_succ] at y0 y2
        clear hX4
        by_cases h0 : 0 ≤ nk
        · have e0 : decide (0 ≤ nk) = true := decide_eq_true h0
          dsimp only
          rw [e0]
          have hcT := Hp.out.le
          rw [HTL.out] at hcT
          have c0 := hc4.cell
          have ht : Boxed w4 (w.heap.size + 1 + 1) 35 (.slice ka TL kc) := hM4.tks
          have t0 := ht.cell
          by_cases h1 : c = TL
          · have HcT : Hid (c = TL) := Lib.hid h1
            have hbool : ((c : Int) == (TL : Int)) = true := by rw [beq_iff_eq]; omega
            clear h1
            have hr3 : Boxed w4 (w.heap.size + 1 + 1 + 1) 4 (.bool false) := hM4.res
            have k1 := hr3.cell
            have f1 := hr3.frozen
            have hbad : ¬ ChkD d ⟨-1, hi, ha⟩ kids toks := Hp.out.bad HPre.out (.inr ⟨h0, .inl (by rw [HTL.out]; exact HcT.out)⟩)
            have HE : Hid (∀ n, KeepsFrom wl.heap.size W2 ((w4.drewN n).setCell ⟨w.heap.size + 1 + 1 + 1, 0, none⟩ (.bool false)) ∧ ChkX d ⟨-1, hi, ha⟩ kids toks w #[.slice xta T xtc, .slice xna N xnc, .slice xaa L xac] (.slice ka TL kc) (pre ++ [⟨⟨dd, ⟨nk, ni, na⟩, kf⟩, xa, xcap⟩]) ((w4.drewN n).setCell ⟨w.heap.size + 1 + 1 + 1, 0, none⟩ (.bool false))) := Lib.hid (fun n => ⟨(KeepsFrom.dNT hk4 n).trans ((KeepsOthers.setCell (w4.drewN n) _ _).from _), (hM4.dNT n).res_set, hbad⟩)
            clear hbad hM4 hc4 hk4 hs4 hr3
            gi_wp2_with (fail)
            refine wpInR_quietT (by kernel_rfl) (by kernel_rfl) (by kernel_rfl) ?_
            repeat (gi_big_quiet_step (fail))
            refine wpQuietIn_nil ?_
            intro _ hw'
            obtain ⟨nq, hw'⟩ := hw'
            subst hw'
            gi_wp2_with (fail)
            exact HE.out _
          · have hlt : c < toks.length := by rw [HTL.out]; omega
            have hltT : c < TL := by omega
            have hbool : ((c : Int) == (TL : Int)) = false := by rw [beq_eq_false_iff_ne]; omega
            have hIt : Ints w4 ka kc toks := HTk.out.grown (hM4.bel)
            obtain ⟨b, off, e⟩ := hIt.at_ c (by rw [List.length_map]; exact hlt)
            have hcl := hIt.cell b off e c (by rw [List.length_map]; exact hlt)
            rw [List.getElem_map] at hcl
            subst e
            obtain ⟨x, hx⟩ : ∃ x, Hid (toks[c] = x) := ⟨_, Lib.hid rfl⟩
            rw [hx.out] at hcl
            have q1 : (c : Int) < (TL : Int) := by omega
            have HcT : Hid (¬ c = TL) := Lib.hid h1
            clear h1 hIt
            by_cases h2 : nk = x
            · have hb2 : (nk != x) = false := by simp [h2]
              have Hx2 : Hid (nk = x) := Lib.hid h2
              clear h2
              by_cases h3 : na = (c : Int)
              · have hb3 : (na != (c : Int)) = false := by simp [h3]
                have Hx3 : Hid (na = (c : Int)) := Lib.hid h3
                clear h3
                have hp2 := Hp.out.tok (x := ⟨dd, ⟨nk, ni, na⟩, kf⟩) hRb.out h0 hlt (Hx2.out.trans hx.out.symm) Hx3.out
                have k1 := hc4.cell
                have f1 := hc4.frozen
                have HE : Hid (∀ n, KeepsFrom wl.heap.size W2 ((w4.drewN n).setCell ⟨w.heap.size + 1 + 1 + 1 + 1, 0, none⟩ (.int .i64 ((c : Int) + 1))) ∧ Spares w.heap.size itTT W2 ((w4.drewN n).setCell ⟨w.heap.size + 1 + 1 + 1 + 1, 0, none⟩ (.int .i64 ((c : Int) + 1))) ∧ ChkI d toks w #[.slice xta T xtc, .slice xna N xnc, .slice xaa L xac] (.slice (some ⟨b, off, none⟩) TL kc) (pre ++ [⟨⟨dd, ⟨nk, ni, na⟩, kf⟩, xa, xcap⟩]) ((w4.drewN n).setCell ⟨w.heap.size + 1 + 1 + 1 + 1, 0, none⟩ (.int .i64 ((c : Int) + 1)))) := Lib.hid (fun n => by
                  have hc9 : Boxed (w4.drewN n) (w.heap.size + 1 + 1 + 1 + 1) 3 (.int .i64 (c : Int)) := hc4
                  have hgs := grownBy_set (w4.drewN n) (w.heap.size + 1 + 1 + 1 + 1) 0 (.int .i64 ((c : Int) + 1))
                  refine ⟨(KeepsFrom.dNT hk4 n).trans ((KeepsOthers.setCell (w4.drewN n) _ _).from _), (hs4.dNT n).trans (Spares.grown hgs (hM4.dNT n).bel.size (fun r e => by cases e; exact ⟨by omega, fun cs t fr hcs => by rw [show (w4.drewN n).heap[w.heap.size + 1 + 1 + 1 + 1]? = _ from hc9] at hcs; cases hcs; decide⟩)), (hM4.dNT n).cnt_set _, c + 1, by rw [List.map_append]; exact hp2, ?_⟩
                  have := hc9.set (.int .i64 ((c : Int) + 1))
                  rw [show ((c + 1 : Nat) : Int) = (c : Int) + 1 by omega]
                  exact this)
                clear hp2 hk4 hs4 hM4 hc4
                gi_wp2_with (fail)
                refine wpInR_quietT (by kernel_rfl) (by kernel_rfl) (by kernel_rfl) ?_
                repeat (gi_big_quiet_step (fail))
                refine wpQuietIn_nil ?_
                intro _ hw'
                obtain ⟨nq, hw'⟩ := hw'
                subst hw'
                gi_wp2_with (fail)
                exact HE.out _
              · have hb3 : (na != (c : Int)) = true := by simp [h3]
                have Hx3 : Hid (¬ na = (c : Int)) := Lib.hid h3
                clear h3
                have hr3 : Boxed w4 (w.heap.size + 1 + 1 + 1) 4 (.bool false) := hM4.res
                have k1 := hr3.cell
                have f1 := hr3.frozen
                have hbad : ¬ ChkD d ⟨-1, hi, ha⟩ kids toks := Hp.out.bad HPre.out (.inr ⟨h0, .inr (.inr Hx3.out)⟩)
                have HE : Hid (∀ n, KeepsFrom wl.heap.size W2 ((w4.drewN n).setCell ⟨w.heap.size + 1 + 1 + 1, 0, none⟩ (.bool false)) ∧ ChkX d ⟨-1, hi, ha⟩ kids toks w #[.slice xta T xtc, .slice xna N xnc, .slice xaa L xac] (.slice (some ⟨b, off, none⟩) TL kc) (pre ++ [⟨⟨dd, ⟨nk, ni, na⟩, kf⟩, xa, xcap⟩]) ((w4.drewN n).setCell ⟨w.heap.size + 1 + 1 + 1, 0, none⟩ (.bool false))) := Lib.hid (fun n => ⟨(KeepsFrom.dNT hk4 n).trans ((KeepsOthers.setCell (w4.drewN n) _ _).from _), (hM4.dNT n).res_set, hbad⟩)
                clear hbad hM4 hc4 hk4 hs4 hr3
                gi_wp2_with (fail)
                refine wpInR_quietT (by kernel_rfl) (by kernel_rfl) (by kernel_rfl) ?_
                repeat (gi_big_quiet_step (fail))
                refine wpQuietIn_nil ?_
                intro _ hw'
                obtain ⟨nq, hw'⟩ := hw'
                subst hw'
                gi_wp2_with (fail)
                exact HE.out _
            · have hb2 : (nk != x) = true := by simp [h2]
              have Hx2 : Hid (¬ nk = x) := Lib.hid h2
              clear h2
              have hr3 : Boxed w4 (w.heap.size + 1 + 1 + 1) 4 (.bool false) := hM4.res
              have k1 := hr3.cell
              have f1 := hr3.frozen
              have hbad : ¬ ChkD d ⟨-1, hi, ha⟩ kids toks := Hp.out.bad HPre.out (.inr ⟨h0, .inr (.inl ⟨hlt, fun e => Hx2.out (e.trans hx.out)⟩)⟩)
              have HE : Hid (∀ n, KeepsFrom wl.heap.size W2 ((w4.drewN n).setCell ⟨w.heap.size + 1 + 1 + 1, 0, none⟩ (.bool false)) ∧ ChkX d ⟨-1, hi, ha⟩ kids toks w #[.slice xta T xtc, .slice xna N xnc, .slice xaa L xac] (.slice (some ⟨b, off, none⟩) TL kc) (pre ++ [⟨⟨dd, ⟨nk, ni, na⟩, kf⟩, xa, xcap⟩]) ((w4.drewN n).setCell ⟨w.heap.size + 1 + 1 + 1, 0, none⟩ (.bool false))) := Lib.hid (fun n => ⟨(KeepsFrom.dNT hk4 n).trans ((KeepsOthers.setCell (w4.drewN n) _ _).from _), (hM4.dNT n).res_set, hbad⟩)
              clear hbad hM4 hc4 hk4 hs4 hr3
              gi_wp2_with (fail)
              refine wpInR_quietT (by kernel_rfl) (by kernel_rfl) (by kernel_rfl) ?_
              repeat (gi_big_quiet_step (fail))
              refine wpQuietIn_nil ?_
              intro _ hw'
              obtain ⟨nq, hw'⟩ := hw'
              subst hw'
              gi_wp2_with (fail)
              exact HE.out _
        · have e0 : decide (0 ≤ nk) = false := decide_eq_false h0
          dsimp only
          rw [e0]
          have hp2 := Hp.out.rule (x := ⟨dd, ⟨nk, ni, na⟩, kf⟩) hRb.out h0
          have HE : Hid (KeepsFrom wl.heap.size W2 w4 ∧ Spares w.heap.size itTT W2 w4 ∧ ChkI d toks w #[.slice xta T xtc, .slice xna N xnc, .slice xaa L xac] (.slice ka TL kc) (pre ++ [⟨⟨dd, ⟨nk, ni, na⟩, kf⟩, xa, xcap⟩]) w4) := Lib.hid ⟨hk4, hs4, hM4, c, by rw [List.map_append]; exact hp2, hc4⟩
          clear hp2 hk4 hs4 hM4 hc4
          gi_wp2_with (fail)
          exact HE.out
    case done =>
      rintro D xs W hD hfull hI hK
      obtain ⟨hM, c, hp, hcb⟩ := hI
      have hws : w.heap.size + 8 ≤ wl.heap.size := by have := Hws.out; omega
      rw [show xs.map (·.nd) = _ from hfull] at hp
      have hdone := hp.done rfl
      rw [HTL.out] at hdone
      have hr3 : Boxed W (w.heap.size + 1 + 1 + 1) 4 (.bool false) := hM.res
      have hc4 : Boxed W (w.heap.size + 1 + 1 + 1 + 1) 3 (.int .i64 (c : Int)) := hcb
      have ht2 : Boxed W (w.heap.size + 1 + 1) 35 (.slice ka TL kc) := hM.tks
      have k1 := hr3.cell
      have f1 := hr3.frozen
      have k2 := hc4.cell
      have k3 := ht2.cell
      have Hdone := Lib.hid hdone
      clear hfull hp hdone
      obtain ⟨B, hB⟩ : ∃ B, Hid (((c : Int) == (TL : Int)) = B) := ⟨_, Lib.hid rfl⟩
      have hB2 := hB.out
      have hBt : Hid (B = true ↔ c = TL) := Lib.hid (by rw [← hB.out, beq_iff_eq]; omega)
      gi_wp2
      have hg4 := grownBy_set W (w.heap.size + 1 + 1 + 1) 0 (.bool B)
      have hK' := (KeepsOthers.setCell W ⟨w.heap.size + 1 + 1 + 1, 0, none⟩ (.bool B)).same D _ hK rfl
      try simp only [hB2]
      refine ⟨by simp, .inl ⟨_, _, rfl, run_takeDeferred hK', ?_⟩⟩
      have hc6 := ((hr3.set (.bool B)).kept (grownBy_putObj' _ D (.deferred none)) (by simp; omega)).cell
      refine ⟨.bool B, ?_, B, rfl, hBt.out.trans Hdone.out.symm, ?_⟩
      · simp [results, Try.f52, go_sem, hc6]
      · exact (hM.bel.setCell (p := ⟨w.heap.size + 1 + 1 + 1, 0, none⟩) (by simp; omega) _).trans ((Below.refl w.heap.size _).grown (grownBy_putObj' _ D (.deferred none)) (by have := hM.bel.size; simp [World.setCell]; omega) (fun k e => by cases e; omega))
    case stop =>
      rintro D pre W hD hgood hI hK
      obtain ⟨hM, hC⟩ := hI
      have hws : w.heap.size + 8 ≤ wl.heap.size := by have := Hws.out; omega
      have hr3 : Boxed W (w.heap.size + 1 + 1 + 1) 4 (.bool false) := hM.res
      have k1 := hr3.cell
      have hDW : D < W.heap.size := (Array.getElem?_eq_some_iff.1 hK).1
      clear hgood
      gi_wp2
      refine ⟨by simp, .inl ⟨_, _, rfl, run_takeDeferred hK, ?_⟩⟩
      have hc6 := (hr3.kept (grownBy_putObj' _ D (.deferred none)) (by simp; omega)).cell
      refine ⟨.bool false, ?_, false, rfl, ⟨fun e => (by cases e), fun h => absurd h hC⟩, hM.bel.trans ((Below.refl w.heap.size _).grown (grownBy_putObj' _ D (.deferred none)) hM.bel.size (fun k e => by cases e; omega))⟩
      simp [results, Try.f52, go_sem, hc6]
  · have hC : ¬ ChkD d ⟨hk, hi, ha⟩ kids toks := fun h => h0 h.1
    have HC := Lib.hid hC
    have hne : (hk != -1) = true := by rw [bne_iff_ne]; exact h0
    have hne2 : (hk == -1) = false := by rw [beq_eq_false_iff_ne]; exact h0
    refine (callsIn_wide (n := 0)).1 ?_
    refine callsIn_of_wp_marks Try.func52 rfl trivial ?_ rfl
    simp only [Try.ntmps52, List.size_toArray, List.length_cons, List.length_nil, Nat.reduceAdd, Nat.reduceSub, Array.replicate_succ, Array.replicate_zero, List.push_toArray, List.append_toArray, List.nil_append, List.cons_append]
    gi_wp2_with (fail)
    have hbx := Boxed.new (((w.alloc (.cells #[.slice xta T xtc, .slice xna N xnc, .slice xaa L xac] 25)).alloc (.cells #[.int .i64 hk, .int .i64 hi, .int .i64 ha, .slice a KL cap] 51)).alloc (.cells #[.slice ka TL kc] 35)) 4 (.bool false)
    simp only [World.size_alloc] at hbx
    have hc6 := hbx.cell
    refine ⟨.bool false, ?_, false, rfl, ⟨fun e => (by cases e), fun h => absurd h HC.out⟩, ((((Below.refl _ w).alloc (Nat.le_refl _) _).alloc (by simp) _).alloc (by simp; omega) _).alloc (by simp; omega) _⟩
    simp [results, Try.f52, go_sem, hc6]
end Go.Proofs.Ythogiakfbgehnaa

namespace Go.Proofs
open Go.Shelf
def Try.laysBS_ren : Go.Shelf.Ren := ⟨fun | 169 => 129 | n => n, fun | 70 => 160 | 9 => 9 | 0 => 0 | 72 => 163 | 37 => 161 | 127 => 204 | 3 => 3 | 5 => 5 | n => n, fun | n => n⟩
theorem Try.laysBS : Go.Proofs.Lays.n169 Try.prog Try.laysBS_ren := {
  mixed := by kernel_rfl
  f169 := Try.func129.trans (congrArg some (by kernel_rfl))
  t0 := Try.underlying0
  a0 := Try.isAgg0
  z0 := Try.sizeOf0
  v0 := Try.zeroValue0
  t3 := Try.underlying3
  a3 := Try.isAgg3
  z3 := Try.sizeOf3
  v3 := Try.zeroValue3
  t9 := Try.underlying9
  a9 := Try.isAgg9
  z9 := Try.sizeOf9
  v9 := Try.zeroValue9
  t37 := Try.underlying161
  a37 := Try.isAgg161
  z37 := Try.sizeOf161
  v37 := Try.zeroValue161
  t70 := Try.underlying160
  a70 := Try.isAgg160
  z70 := Try.sizeOf160
  v70 := Try.zeroValue160
  t72 := Try.underlying163
  a72 := Try.isAgg163
  z72 := Try.sizeOf163
  v72 := Try.zeroValue163
  t127 := Try.underlying204
  a127 := Try.isAgg204
  z127 := Try.sizeOf204
  v127 := Try.zeroValue204 }
theorem Try.Builder_ExtraBS : Builder.Extra Try.prog Try.laysBS_ren := {
  sizeBuilder := by kernel_rfl
  liesBuilder := by kernel_rfl
  t5 := Try.underlying5
  a5 := Try.isAgg5
  z5 := Try.sizeOf5
  v5 := Try.zeroValue5
  infoByte := by kernel_rfl
  cellsByte := by kernel_rfl
  sizeByte := by kernel_rfl
  neB5 := by decide }
end Go.Proofs

namespace Go.Proofs.Ythogiakfbgehnaa
open Go.RowKit Go.Shelf

attribute [local go_sem] Oper.semAt_some

abbrev BuF (B b : Nat) (bs : List Value) (w : World) : Prop := Lib.IsBuilderF 163 5 B b bs w
abbrev BuA (B b : Nat) (p : Value) (bs : List Value) (w : World) : Prop := Lib.BuilderAtF 163 5 B b p bs w
abbrev OthK (b : Nat) (w w' : World) : Prop := Lib.OthersKept 5 (some b) w w'

theorem bu_info : (Try.prog.info? 163).map (·.size) = some 2 := by kernel_rfl
theorem bu_lies : liesAt Try.prog Try.prog.depth 163 (2 / Try.prog.cellsOf 163) 0 163 1 = true := by kernel_rfl

set_option maxRecDepth 100000 in
set_option maxHeartbeats 1000000 in
theorem copy_fresh (b : Nat) (w : World) (h0 : w.cell? ⟨b, 0, none⟩ = some (.pointer none)) (hsh : w.shape? b = some (163, 2)) (hfz : w.frozen? ⟨b, 0, none⟩ = false) :
    Calls Try.prog 154 #[.pointer (some ⟨b, 0, none⟩)] w fun e w' => e = .returned (.tuple #[]) ∧ w' = w.setCell ⟨b, 0, none⟩ (.pointer (some ⟨b, 0, none⟩)) := by
  obtain ⟨j, hj, hjs⟩ := Option.map_eq_some_iff.1 bu_info
  go_enter Try.func154, Try.ntmps154
  go_wp2
  rw [Lib.run_to_unsafe w ⟨b, 0, none⟩ Try.underlying160 Try.underlying214 hj (by rw [hjs]; decide) hsh (Nat.zero_lt_succ 1)]
  simp only [Result.andThen]
  rw [Oper.upon_value]
  go_wp2
  rw [run_callFunc_extern Try.func169 (by kernel_rfl) (by kernel_rfl) (by kernel_rfl) (e := Extern.AbiNoEscape.same) (by kernel_rfl)]
  rw [Lib.run_noEscape]
  simp only [Result.andThen]
  rw [Oper.upon_value]
  go_wp2
  rw [Lib.run_from_unsafe w ⟨b, 0, none⟩ Try.underlying214 Try.underlying160 hj hsh bu_lies]
  simp only [Result.andThen]
  rw [Oper.upon_value]
  go_wp2
  go_end0
  exact ⟨rfl, rfl⟩

set_option maxRecDepth 100000 in
set_option maxHeartbeats 1000000 in
theorem copy_used (b : Nat) (w : World) (h0 : w.cell? ⟨b, 0, none⟩ = some (.pointer (some ⟨b, 0, none⟩))) :
    Calls Try.prog 154 #[.pointer (some ⟨b, 0, none⟩)] w fun e w' => e = .returned (.tuple #[]) ∧ w' = w := by
  obtain ⟨j, hj, hjs⟩ := Option.map_eq_some_iff.1 bu_info
  go_enter Try.func154, Try.ntmps154
  go_wp2
  rw [Lib.run_neq_ptr_same w _ Try.underlying160 hj]
  go_wp2
  go_end0
  exact ⟨rfl, rfl⟩

theorem copy_any (B b : Nat) (bs : List Value) (w : World) (h : BuF B b bs w) :
    Calls Try.prog 154 #[.pointer (some ⟨b, 0, none⟩)] w fun e w' => e = .returned (.tuple #[]) ∧ BuA B b (.pointer (some ⟨b, 0, none⟩)) bs w' ∧ Below B w w' ∧ OthK b w w' := by
  rcases h with h | h
  · refine (copy_fresh b w h.cell0 h.shape h.frozen0).mono ?_
    rintro e w' ⟨rfl, rfl⟩
    exact ⟨rfl, h.used _, (Below.refl B w).setCell (p := ⟨b, 0, none⟩) h.1 _, (Lib.OthersKept.refl _ _ w).setCell ⟨b, 0, none⟩ rfl _⟩
  · refine (copy_used b w h.cell0).mono ?_
    rintro e w' ⟨rfl, rfl⟩
    exact ⟨rfl, h, Below.refl B _, Lib.OthersKept.refl _ _ _⟩

set_option maxRecDepth 100000 in
set_option maxHeartbeats 1000000 in
theorem write_any (B b : Nat) (bs : List Value) (s : ByteArray) (w : World) (h : BuF B b bs w) (hlen : bs.length + s.size ≤ 140737488355328) (hBw : B ≤ w.heap.size) :
    Calls Try.prog 126 #[.pointer (some ⟨b, 0, none⟩), .string s] w fun e w' => e = .returned (.tuple #[.int .i64 s.size, .nilIface]) ∧ BuA B b (.pointer (some ⟨b, 0, none⟩)) (bs ++ Lib.strCells s) w' ∧ Below B w w' ∧ OthK b w w' := by
  have Hc := Lib.hid (copy_any B b bs w h)
  obtain ⟨i0, hi, hz0, hz1, hz2⟩ := info_parts (Try.Builder_ExtraBS.infoByte)
  go_enter Try.func126, Try.ntmps126
  go_wp2_with (fail)
  refine Hc.out.mono ?_
  rintro e w1 ⟨rfl, h1, hb1, hk1⟩
  obtain ⟨hB, v, hbk, hown, hne⟩ := h1
  have c0 : w1.cell? ⟨b, 0, none⟩ = some (.pointer (some ⟨b, 0, none⟩)) := by rw [Lib.cell_of_heap hbk]; rfl
  have c1 : w1.cell? ⟨b, 1, none⟩ = some v := by rw [Lib.cell_of_heap hbk]; rfl
  go_wp2_with (at_builtin; refine Lib.wpList_append_own_stringF _ rfl _ _ 161 9 rfl B 5 i0 Try.underlying161 Try.underlying9 hi hz0 hz1 hz2 _ _ _ rfl hown s rfl ?c3 ?c4 ?c5 ?_)
  case c3 => unfold maxLen; omega
  case c4 => omega
  case c5 => have := hb1.size; omega
  intro v' w2 hown' hgrow _
  have hlt : b < w1.heap.size := (Array.getElem?_eq_some_iff.1 hbk).1
  have hb2 : w2.heap[b]? = some (.cells #[.pointer (some ⟨b, 0, none⟩), v] 163 (0, 0)) := by
    rw [hgrow.block b hlt (fun e => hne e.symm)]
    exact hbk
  have d0 : w2.cell? ⟨b, 0, none⟩ = some (.pointer (some ⟨b, 0, none⟩)) := by rw [Lib.cell_of_heap hb2]; rfl
  have d1 : w2.cell? ⟨b, 1, none⟩ = some v := by rw [Lib.cell_of_heap hb2]; rfl
  have f1 : w2.frozen? ⟨b, 1, none⟩ = false := Lib.frozen_of_heap hb2 1
  obtain ⟨ao, n', cap, rfl⟩ : ∃ ao n' cap, v' = .slice ao n' cap := by
    rcases hown'.2 with ⟨hv, _⟩ | ⟨g, cap, cur, fz, hv, _⟩
    · exact ⟨_, _, _, hv⟩
    · exact ⟨_, _, _, hv⟩
  go_wp2
  go_ret2
  refine ⟨rfl, ?_, ?_, (hk1.grown hgrow (Lib.ownsRowF_kind hown)).setCell ⟨b, 1, none⟩ rfl _⟩
  · exact Lib.BuilderAtF.put (T := 163) (e := 5) hB hb2 (bs' := bs ++ Lib.strCells s) (by simpa [Lib.strCells_length] using hown') (by decide)
  · exact (hb1.grown hgrow (by have := hb1.size; omega) (fun k hk => (hown.lt k hk).1)).setCell (p := ⟨b, 1, none⟩) hB _

end Go.Proofs.Ythogiakfbgehnaa

namespace Go.Proofs
open Go.Shelf
def Try.laysRp_ren : Go.Shelf.Ren := ⟨fun | 105 => 130 | 212 => 117 | 99 => 155 | 165 => 156 | 166 => 126 | 170 => 157 | 169 => 129 | 263 => 148 | 264 => 149 | 206 => 170 | 240 => 154 | 241 => 171 | 276 => 169 | 277 => 188 | n => n, fun | 9 => 9 | 3 => 3 | 4 => 4 | 20 => 20 | 0 => 0 | 46 => 147 | 109 => 148 | 5 => 5 | 72 => 163 | 76 => 167 | 51 => 196 | 146 => 197 | 53 => 199 | 148 => 200 | 70 => 160 | 37 => 161 | 75 => 165 | 127 => 204 | 164 => 214 | 80 => 170 | n => n, fun | n => n⟩
theorem Try.laysRp : Go.Proofs.Lays.n105 Try.prog Try.laysRp_ren := {
  mixed := by kernel_rfl
  f99 := Try.func155.trans (congrArg some (by kernel_rfl))
  f105 := Try.func130.trans (congrArg some (by kernel_rfl))
  f165 := Try.func156.trans (congrArg some (by kernel_rfl))
  f166 := Try.func126.trans (congrArg some (by kernel_rfl))
  f169 := Try.func129.trans (congrArg some (by kernel_rfl))
  f170 := Try.func157.trans (congrArg some (by kernel_rfl))
  f206 := Try.func170.trans (congrArg some (by kernel_rfl))
  f212 := Try.func117.trans (congrArg some (by kernel_rfl))
  f240 := Try.func154.trans (congrArg some (by kernel_rfl))
  f241 := Try.func171.trans (congrArg some (by kernel_rfl))
  f263 := Try.func148.trans (congrArg some (by kernel_rfl))
  f264 := Try.func149.trans (congrArg some (by kernel_rfl))
  f276 := Try.func169.trans (congrArg some (by kernel_rfl))
  f277 := Try.func188.trans (congrArg some (by kernel_rfl))
  t0 := Try.underlying0
  a0 := Try.isAgg0
  z0 := Try.sizeOf0
  v0 := Try.zeroValue0
  t3 := Try.underlying3
  a3 := Try.isAgg3
  z3 := Try.sizeOf3
  v3 := Try.zeroValue3
  t4 := Try.underlying4
  a4 := Try.isAgg4
  z4 := Try.sizeOf4
  v4 := Try.zeroValue4
  t5 := Try.underlying5
  a5 := Try.isAgg5
  z5 := Try.sizeOf5
  v5 := Try.zeroValue5
  t9 := Try.underlying9
  a9 := Try.isAgg9
  z9 := Try.sizeOf9
  v9 := Try.zeroValue9
  t20 := Try.underlying20
  a20 := Try.isAgg20
  z20 := Try.sizeOf20
  v20 := Try.zeroValue20
  t37 := Try.underlying161
  a37 := Try.isAgg161
  z37 := Try.sizeOf161
  v37 := Try.zeroValue161
  t46 := Try.underlying147
  a46 := Try.isAgg147
  z46 := Try.sizeOf147
  v46 := Try.zeroValue147
  t51 := Try.underlying196
  a51 := Try.isAgg196
  z51 := Try.sizeOf196
  v51 := Try.zeroValue196
  t53 := Try.underlying199
  a53 := Try.isAgg199
  z53 := Try.sizeOf199
  v53 := Try.zeroValue199
  t70 := Try.underlying160
  a70 := Try.isAgg160
  z70 := Try.sizeOf160
  v70 := Try.zeroValue160
  t72 := Try.underlying163
  a72 := Try.isAgg163
  z72 := Try.sizeOf163
  v72 := Try.zeroValue163
  t75 := Try.underlying165
  a75 := Try.isAgg165
  z75 := Try.sizeOf165
  v75 := Try.zeroValue165
  t76 := Try.underlying167
  a76 := Try.isAgg167
  z76 := Try.sizeOf167
  v76 := Try.zeroValue167
  t109 := Try.underlying148
  a109 := Try.isAgg148
  z109 := Try.sizeOf148
  v109 := Try.zeroValue148
  t127 := Try.underlying204
  a127 := Try.isAgg204
  z127 := Try.sizeOf204
  v127 := Try.zeroValue204
  t146 := Try.underlying197
  a146 := Try.isAgg197
  z146 := Try.sizeOf197
  v146 := Try.zeroValue197
  t148 := Try.underlying200
  a148 := Try.isAgg200
  z148 := Try.sizeOf200
  v148 := Try.zeroValue200
  t164 := Try.underlying214
  a164 := Try.isAgg214
  z164 := Try.sizeOf214
  v164 := Try.zeroValue214 }
theorem Try.Builder_ExtraRp : Builder.Extra Try.prog Try.laysRp_ren := {
  sizeBuilder := by kernel_rfl
  liesBuilder := by kernel_rfl
  t5 := Try.underlying5
  a5 := Try.isAgg5
  z5 := Try.sizeOf5
  v5 := Try.zeroValue5
  infoByte := by kernel_rfl
  cellsByte := by kernel_rfl
  sizeByte := by kernel_rfl
  neB5 := by decide }
end Go.Proofs
namespace Go.Proofs.Ythogiakfbgehnaa
open Go.RowKit Go.Shelf

attribute [local go_sem] Oper.semAt_some

theorem repeat_any (s : ByteArray) (c : Nat) (w : World) (hc : c ≤ 9223372036854775807) (hlen : s.size * c ≤ 140737488355328) :
    Calls Try.prog 130 #[.string s, .int .i64 c] w fun e w' => e = .returned (.string ⟨(Lib.repeatL s.data.toList c).toArray⟩) ∧ Below w.heap.size w w' :=
  Any.strings_Repeat Try.laysRp Try.Builder_ExtraRp s c w hc hlen
set_option maxRecDepth 100000 in
set_option maxHeartbeats 1000000 in
theorem wbyte_any (B b : Nat) (bs : List Value) (c : Int) (w : World) (h : BuF B b bs w) (hlen : bs.length + 1 ≤ 140737488355328) (hBw : B ≤ w.heap.size) :
    Calls Try.prog 125 #[.pointer (some ⟨b, 0, none⟩), .int .u8 c] w fun e w' => e = .returned .nilIface ∧ BuA B b (.pointer (some ⟨b, 0, none⟩)) (bs ++ [.int .u8 c]) w' ∧ Below B w w' ∧ OthK b w w' := by
  have Hc := Lib.hid (copy_any B b bs w h)
  obtain ⟨i0, hi, hz0, hz1, hz2⟩ := info_parts (Try.Builder_ExtraBS.infoByte)
  go_enter Try.func125, Try.ntmps125
  go_wp2_with (fail)
  refine Hc.out.mono ?_
  rintro e w1 ⟨rfl, h1, hb1, hk1⟩
  obtain ⟨hB, v, hbk, hown, hne⟩ := h1
  have c0 : w1.cell? ⟨b, 0, none⟩ = some (.pointer (some ⟨b, 0, none⟩)) := by rw [Lib.cell_of_heap hbk]; rfl
  have c1 : w1.cell? ⟨b, 1, none⟩ = some v := by rw [Lib.cell_of_heap hbk]; rfl
  go_wp2_with (at_builtin; refine wpList_append_ownF _ rfl _ _ 161 rfl B 5 i0 (.int .u8 0) 1 1 Try.underlying161 hi hz0 hz1 hz2 rfl (by decide) _ _ _ rfl (hown.alloc _) ⟨w1.heap.size, 0, none⟩ 1 1 [.int .u8 c] rfl rfl ?c1 ?c2 ?c3 ?c4 ?c5 ?_)
  case c1 =>
    intro j u hj
    match j, hj with
    | 0, hj => simp at hj; subst hj; simp [Addr.add]
  case c2 => intro u hu; simp at hu; subst hu; rfl
  case c3 => unfold maxLen; omega
  case c4 => omega
  case c5 => have := hb1.size; simp; omega
  intro v' w2 hown' hgrow _
  have hlt : b < w1.heap.size := (Array.getElem?_eq_some_iff.1 hbk).1
  have hb2 : w2.heap[b]? = some (.cells #[.pointer (some ⟨b, 0, none⟩), v] 163 (0, 0)) := by
    rw [hgrow.block b (by simp; omega) (fun e => hne e.symm), Lib.alloc_old w1 _ b hlt]
    exact hbk
  have d0 : w2.cell? ⟨b, 0, none⟩ = some (.pointer (some ⟨b, 0, none⟩)) := by rw [Lib.cell_of_heap hb2]; rfl
  have d1 : w2.cell? ⟨b, 1, none⟩ = some v := by rw [Lib.cell_of_heap hb2]; rfl
  have f1 : w2.frozen? ⟨b, 1, none⟩ = false := Lib.frozen_of_heap hb2 1
  obtain ⟨g, cap, rfl⟩ : ∃ g cap, v' = .slice (some ⟨g, 0, none⟩) (bs.length + 1) cap := by
    rcases hown'.2 with ⟨_, h0⟩ | ⟨g, cap, cur, fz, hv, _⟩
    · omega
    · exact ⟨g, cap, hv⟩
  go_wp2
  go_ret
  refine ⟨rfl, ?_, ?_, ((hk1.alloc _).grown hgrow (Lib.ownsRowF_kind (hown.alloc _))).setCell ⟨b, 1, none⟩ rfl _⟩
  · exact Lib.BuilderAtF.put (T := 163) (e := 5) hB hb2 (bs' := bs ++ [.int .u8 c]) (by simpa using hown') (by decide)
  · exact ((hb1.alloc (by have := hb1.size; omega) _).grown hgrow (by have := hb1.size; simp; omega) (fun k hk => (hown.lt k hk).1)).setCell (p := ⟨b, 1, none⟩) hB _
end Go.Proofs.Ythogiakfbgehnaa

