/- Texts of layer 2 joined: Hh. -/
import Derived.Test.YtpbceejjkdmclaaJH7
import Derived.OwnWalkIn
set_option linter.unusedVariables false
set_option linter.unusedSimpArgs false
/- Layer 3: slices.AppendSeq of what is behind a state; step. -/
namespace Go.Proofs.Ytpbceejjkdmclaa
open Go.RowKit Go.Shelf Go.Maps

attribute [local go_sem] Oper.semAt_some

/-- An own row, and the block that names it. -/
structure RwAt (V : World) (bO base : Nat) (oa : Option Addr) (oc : Nat) (out : List Nat) : Prop where
  blk : Blk V bO 22 [.slice oa out.length oc]
  row : OwnI V base oa out.length oc out
section
variable {V V' : World} {bO base : Nat} {oa : Option Addr} {oc : Nat} {out : List Nat}
theorem RwAt.keptK {bad : Nat → Prop} (h : RwAt V bO base oa oc out) (hk : Kps bad V V') (h1 : ¬ bad bO) (h2 : ∀ g, obk oa = some g → ¬ bad g) : RwAt V' bO base oa oc out := by
  refine ⟨hk.blk h.blk h1, h.row.1, h.row.2.imp id ?_⟩
  rintro ⟨g, cap, cur, e1, e2, e3, e4⟩
  refine ⟨g, cap, cur, e1, e2, ?_, e4⟩
  rw [hk.block g (Array.getElem?_eq_some_iff.1 e3).1 (h2 g (by injection e1 with e1; rw [e1]; rfl))]
  exact e3
set_option maxRecDepth 100000 in
theorem RwAt.push (h : RwAt V bO base oa oc out) (st : Nat) (ty : TypeId) (hB : base ≤ V.heap.size) (hn : out.length + 1 ≤ 1099511627780) :
    ∃ a' c' w', (Builtin.append_ #[22, 22] ty #[.slice oa out.length oc, .slice (some ⟨V.heap.size, 0, none⟩) 1 1]).run Try.prog (V.alloc (.cells #[iv st] 3)) = .ok (.slice a' (out.length + 1) c') w' ∧
      Blk w' bO 22 [.slice oa out.length oc] ∧ RwAt (w'.setCell ⟨bO, 0, none⟩ (.slice a' (out.length + 1) c')) bO base a' c' (out ++ [st]) ∧ Kps (fun k => k = bO ∨ obk oa = some k) V (w'.setCell ⟨bO, 0, none⟩ (.slice a' (out.length + 1) c')) ∧ New V.heap.size oa a' := by
  obtain ⟨a', c', w', hrun, hown, hg, hnew⟩ := run_pushI V ty st (iv st) rfl h.row hn hB
  rw [ownBlock_obk] at hg
  have hob := h.row.obk_ne h.blk (by decide)
  have hob' : Blk w' bO 22 [.slice oa out.length oc] := h.blk.kept hg (fun e => hob e.symm)
  have ha' : obk a' ≠ some bO := by
    intro e
    obtain ⟨_, cur, h1⟩ := OwnI.obk_typ (show OwnI w' base a' (out.length + 1) c' (out ++ [st]) from hown) e
    unfold Blk at hob'
    rw [h1] at hob'
    cases hob'
  have hg2 := grownBy_set w' bO 0 (.slice a' (out.length + 1) c')
  refine ⟨a', c', w', hrun, hob', ⟨?_, ?_⟩, (kps_grown hg).trans (kps_grown hg2) (fun i e => .inr e) (fun i e _ => .inl (by injection e with e; exact e.symm)), hnew⟩
  · have := hob'.set 0 (.slice a' (out.length + 1) c')
    rw [List.length_append]
    exact this
  · rw [List.length_append]
    exact OwnI.kept hown hg2 (.inr ha')
end
theorem behE_len (es : List Eg) (P : Eg → Bool) (s : Int) : ∀ k, (behE es P s k).length ≤ k
  | 0 => Nat.le_refl _
  | k + 1 => by
    have := behE_len es P s k
    rw [behE_succ]
    split
    · split
      · rw [List.length_cons]; omega
      · omega
    · omega
theorem ItK.frf2 {w0 : World} {x : Nf} {p : NfL} {L : WkL} {wb n0 s : Nat} {cv : Value} {V V' : World} {n : Nat} {bad : Nat → Prop} (h : ItK w0 x p L wb n0 s cv V) (hf : FrF n bad V V') (hn : n0 + 2 < n) (h1 : wb < n) (h2 : L.fb < n) (h3 : L.nb < n) (g0 : ∀ k, n0 ≤ k → k ≤ n0 + 2 → ¬ bad k) (g1 : ¬ bad wb) (g2 : ¬ bad L.fb) (g3 : ¬ bad L.nb) (hw : w0.heap.size ≤ n) (hb : ∀ k, bad k → w0.heap.size ≤ k) : ItK w0 x p L wb n0 s cv V' := by
  have mv : ∀ b o v, b < n → ¬ bad b → V.cell? ⟨b, o, none⟩ = some v → V'.cell? ⟨b, o, none⟩ = some v := fun b o v hb' hn' hc => (World.cell?_of_block (a := ⟨b, o, none⟩) (hf.block b hb' hn')).trans hc
  exact ⟨mv _ _ _ (by omega) (g0 _ (by omega) (by omega)) h.cw, mv _ _ _ (by omega) (g0 _ (by omega) (by omega)) h.cs, mv _ _ _ (by omega) (g0 _ (by omega) (by omega)) h.cc, mv _ _ _ h1 g1 h.b0, mv _ _ _ h1 g1 h.b1, mv _ _ _ h1 g1 h.b2, fun i hi => mv _ _ _ h2 g2 (h.first i hi), fun i hi => mv _ _ _ h3 g3 (h.next i hi), h.bel.trans ⟨hf.os, hf.tape, hf.output, hf.size, fun k hk => hf.block k (by omega) (fun e => by have := hb k e; omega)⟩⟩
theorem wpListIn_append_runR {l n : Nat} {P : Program} {w : World} {ops : Array Oper} {rest : List Oper} {o : Oper} {a : Act} {Q : Exit → Act → World → Prop} (hg : o.guard = none) (s x : Operand) (t t2 : TypeId)
    (hop : o.op = Op.call { callee := Callee.builtin Builtin.append, args := #[s, x], argTypes := #[t, t2] }) (vs vx v' : Value) (w' : World) (hs : a.eval s = vs) (hx : a.eval x = vx)
    (hrun : (Builtin.append_ #[t, t2] o.type #[vs, vx]).run P w = .ok v' w') (hK : wpListIn (Fence.wide.inRound l) n P ops Q rest (a.put o.dst v') w') : wpListIn (Fence.wide.inRound l) n P ops Q (o :: rest) a w := by
  refine wpListIn_plain hg fun K' hK' => ?_
  unfold Oper.wpIn
  refine ⟨fun _ _ => trivial, ?_⟩
  rw [Oper.semAt_eq _ _ _ (by rw [hop]; intro c hc; cases hc)]
  simp [execOp, hop, resolve, invoke, builtin, hs, hx, hrun, Result.andThen]
  exact hK' _ _ hK
/-- What holds at the head of each round of AppendSeq. -/
def ApI (W : World) (bO base n : Nat) (oa0 : Option Addr) (out0 : List Nat) (pre : List Int) (V : World) : Prop :=
  ∃ oa oc xs, RwAt V bO base oa oc (out0 ++ xs) ∧ xs.map (fun v : Nat => (v : Int)) = pre ∧ (∀ g, obk oa = some g → obk oa0 = some g ∨ n ≤ g) ∧ Kps (fun k => obk oa0 = some k) W V
/-- The last mark is closed. -/
theorem leaves_mark1 {F : Fence} {n : Nat} {P : Program} {fn : Func} {tmps : Array Value} {R : Ending → World → Prop} {D : Nat} {w : World} (h : w.heap[D]? = some (.deferred (some []))) (H : ∀ w', Kps (fun k => k = D) w w' → LeavesInM F n P fn tmps R [] .returning w') :
    LeavesInM F n P fn tmps R [{ target := .collected D, args := #[] }] .returning w :=
  leaves_marks _ w ⟨⟨D, rfl, h, fun e he => by cases he⟩, trivial⟩ (fun w' hw' => H w' (hw'.mono (fun i ⟨d, h1, h2⟩ _ => by
    rw [List.mem_singleton.1 h1] at h2
    simp only [Target.collected.injEq] at h2
    exact h2.symm)))

set_option maxRecDepth 100000 in
set_option maxHeartbeats 4000000 in
theorem apseq_any (w0 W : World) (base : Nat) (x : Nf) (p : NfL) (L : WkL) (wb n0 st bX c : Nat) (oa : Option Addr) (oc : Nat) (out : List Nat) (hes : Egs w0 p.ga p.gc x.es) (hx : linkB x = true) (hM : x.es.length ≤ 1000000)
    (hK : ItK w0 x p L wb n0 st (.func (.func 66) #[] #[.pointer (some ⟨bX, 0, none⟩)]) W) (hX : Blk W bX 5 [.int .u8 (c : Int)]) (hc : c < 256) (hst : st < x.n.toNat)
    (hr : OwnI W base oa out.length oc out) (hol : out.length ≤ 1000000000) (hb : w0.heap.size ≤ base ∧ base ≤ W.heap.size ∧ wb < base ∧ L.fb < base ∧ L.nb < base) (hn0 : n0 + 2 < W.heap.size ∧ base ≤ n0) (hoa : ∀ g, obk oa = some g → g < n0) :
    Calls Try.prog 68 #[.slice oa out.length oc, .func (.func 80) #[] #[.pointer (some ⟨n0, 0, none⟩), .pointer (some ⟨n0 + 1, 0, none⟩), .pointer (some ⟨n0 + 2, 0, none⟩)]] W fun e w' => ∃ oa' oc' xs, e = .returned (.slice oa' (out ++ xs).length oc') ∧ OwnI w' base oa' (out ++ xs).length oc' (out ++ xs) ∧
      xs.map (fun v : Nat => (v : Int)) = behE x.es (fun e => inSp e.q c) (st : Int) x.es.length ∧ (∀ g, obk oa' = some g → obk oa = some g ∨ W.heap.size ≤ g) ∧ Kps (fun k => obk oa = some k) W w' := by
  have hnn := link_n hx
  obtain ⟨b1, b2, b3, b4, b5⟩ := hb
  have hR0 : RwAt (W.alloc (.cells #[.slice oa out.length oc] 22)) W.heap.size base oa oc out := ⟨Blk.new W 22 #[.slice oa out.length oc], hr.alloc _⟩
  have hK1 := hK.below ((Below.refl _ W).alloc (Nat.le_refl _) (.cells #[.slice oa out.length oc] 22))
  have hX1 := hX.alloc (.cells #[.slice oa out.length oc] 22)
  have hkW := kps_alloc W (.cells #[.slice oa out.length oc] 22)
  have hsz : (W.alloc (.cells #[.slice oa out.length oc] 22)).heap.size = W.heap.size + 1 := by simp
  have hxl := hX.lt
  have hXr := hr.obk_ne hX (by decide)
  have HX := Lib.hid hx
  refine (callsIn_wide (n := 0)).1 ?_
  refine callsIn_of_wp_marks Try.func68 rfl trivial ?_ rfl
  simp only [Try.ntmps68, List.size_toArray, List.length_cons, List.length_nil, Nat.reduceAdd, Nat.reduceSub, Array.replicate_succ, Array.replicate_zero, List.push_toArray, List.append_toArray, List.nil_append, List.cons_append]
  gi_wp2_with (fail)
  generalize W.alloc (.cells #[.slice oa out.length oc] 22) = W1 at hR0 hK1 hX1 hkW hsz ⊢
  have HR0 := Lib.hid hR0
  clear hR0 hr hK hX
  refine range_lawF (T := fun _ => false) (F := FrF W1.heap.size (fun k => k = W.heap.size ∨ obk oa = some k)) (encs := encI) (Good := BGood x (fun e => inSp e.q c) st) (Full := BFull x (fun e => inSp e.q c) st) (gf := 80) (lb := #[.pointer (some ⟨n0, 0, none⟩), .pointer (some ⟨n0 + 1, 0, none⟩), .pointer (some ⟨n0 + 2, 0, none⟩)]) rfl (enters_of Try.func80 (by kernel_rfl) rfl) (frm_frf _ _)
    (behind1_B (fun V => ItK w0 x p L wb n0 st (.func (.func 66) #[] #[.pointer (some ⟨bX, 0, none⟩)]) V ∧ Blk V bX 5 [.int .u8 (c : Int)]) _ x p L wb n0 (n0 + 1) (n0 + 2) bX st _ (fun V h => h.1.it hes) (fun V V' h hb => ⟨h.1.below hb, h.2.below hb h.2.lt⟩)
      (fun V V' h hf => ⟨h.1.frf2 hf (by omega) (by omega) (by omega) (by omega)
        (fun k h1 h2 e => by
          rcases e with e | e
          · omega
          · have := hoa k e; omega)
        (fun e => by
          rcases e with e | e
          · omega
          · have := (HR0.out.row.obk_typ e).1; omega)
        (fun e => by
          rcases e with e | e
          · omega
          · have := (HR0.out.row.obk_typ e).1; omega)
        (fun e => by
          rcases e with e | e
          · omega
          · have := (HR0.out.row.obk_typ e).1; omega) (by omega)
        (fun k e => by
          rcases e with e | e
          · omega
          · have := (HR0.out.row.obk_typ e).1; omega), by
        have h2 := h.2
        unfold Blk at h2 ⊢
        rw [hf.block bX (by omega) (fun e => by
          rcases e with e | e
          · omega
          · exact hXr e)]
        exact h2⟩)
      (fun V e sa sc h hs => byThis_any e sa sc bX c hc V hs (by simpa using h.2.cell 0)) hst hnn.2.1 hM _ W1 ⟨hK1, hX1⟩) (fun _ => rfl)
    (ApI W W.heap.size base W1.heap.size oa out) ?bI ?h0 ?round ?done
  case bI =>
    rintro s V V' row ⟨oa3, oc3, xs, h1, h2, h3, h4⟩ hg hr
    have hbad : ∀ k, row = some k → W1.heap.size ≤ k ∧ ∃ o, V.heap[k]? = some o ∧ o.isCells = false := fun k e => by
      obtain ⟨r1, o, r2, r3⟩ := hr k e
      refine ⟨r1, o, r2, ?_⟩
      rcases r3 with r3 | ⟨_, _, _, _, r3⟩
      · exact r3
      · cases r3
    refine ⟨oa3, oc3, xs, h1.keptK (kps_grown hg) (fun e => by have := (hbad _ e).1; omega) (fun g e hb => ?_), h2, h3, h4.trans (kps_grown hg) (fun _ h => h) (fun i e hi => by have := (hbad i e).1; omega)⟩
    obtain ⟨_, cur, k1⟩ := h1.row.obk_typ e
    obtain ⟨_, o, k2, k3⟩ := hbad g hb
    rw [k1] at k2
    cases k2
    cases k3
  case h0 => exact ⟨oa, oc, [], by simpa using HR0.out, rfl, fun g e => .inl e, hkW.mono (fun _ h _ => h.elim)⟩
  case round =>
    rintro l pre t V hl ⟨r, hr⟩ ⟨oa3, oc3, xs, hR3, hpre, hloc, hkp⟩ hgood
    have hin : t ∈ behE x.es (fun e => inSp e.q c) (st : Int) x.es.length := by
      obtain ⟨r0, hr0⟩ := hgood
      rw [← hr0]; simp
    obtain ⟨e, hee, hef, heq, het⟩ := (mem_behind _ st t).1 hin
    obtain ⟨_, b, hb1, hb2⟩ := link_ends HX.out hee
    obtain rfl : t = (b : Int) := het.symm.trans hb1
    have hxl2 : xs.length ≤ 1000000 := by
      have h1 : xs.length = pre.length := by rw [← hpre, List.length_map]
      obtain ⟨r0, hr0⟩ := hgood
      have h2 := congrArg List.length hr0
      have h3 := behE_len x.es (fun e => inSp e.q c) (st : Int) x.es.length
      simp only [List.length_append, List.length_singleton] at h2
      omega
    have HR3 := Lib.hid hR3
    have Hpre := Lib.hid hpre
    have Hloc := Lib.hid hloc
    have Hkp := Lib.hid hkp
    clear hin hgood hee hef heq het hb1 hR3 hloc hpre hkp
    have hVl : l < V.heap.size := (Array.getElem?_eq_some_iff.1 hr).1
    dsimp only [encI]
    gi_wp2_with (fail)
    refine ⟨KeepsFrom.refl _ _, FrF.of_kps (Kps.refl (fun _ => False) V) (by omega) (fun _ _ h => h.elim), fun V2 hg2 => ?_⟩
    have hR4 := HR3.out.keptK (kps_grown hg2) (fun e => by injection e with e; omega) (fun g e hb => by
      injection hb with hb
      subst hb
      obtain ⟨_, cur, k1⟩ := HR3.out.row.obk_typ e
      rw [hr] at k1
      cases k1)
    have hV2 : W1.heap.size ≤ V2.heap.size := by have := hg2.size; omega
    have hk2 := Hkp.out.trans (kps_grown hg2) (b3 := fun k => obk oa = some k) (fun _ h => h) (fun i e hi => by injection e with e; omega)
    have hyl : (out ++ xs).length + 1 ≤ 1099511627780 := by rw [List.length_append]; omega
    obtain ⟨ys, hys⟩ : ∃ ys, Hid (out ++ xs = ys) := ⟨_, Lib.hid rfl⟩
    rw [hys.out] at hR4 hyl
    obtain ⟨a6, c6, w6, hrun, hk6, hR6, hF6, hN6⟩ := hR4.push b 22 (by omega) hyl
    have hr6 := Lib.hid hrun
    have HR4 := Lib.hid hR4
    have HV2 := Lib.hid hV2
    have HE : Hid (KeepsFrom W1.heap.size V2 (w6.setCell ⟨W.heap.size, 0, none⟩ (.slice a6 (ys.length + 1) c6)) ∧ FrF W1.heap.size (fun k => k = W.heap.size ∨ obk oa = some k) V2 (w6.setCell ⟨W.heap.size, 0, none⟩ (.slice a6 (ys.length + 1) c6)) ∧ ApI W W.heap.size base W1.heap.size oa out (pre ++ [(b : Int)]) (w6.setCell ⟨W.heap.size, 0, none⟩ (.slice a6 (ys.length + 1) c6))) := Lib.hid ⟨keepsFrom_kps hF6 (fun k o hk ho hc hb => by
        rcases hb with hb | hb
        · omega
        · obtain ⟨_, cur, h1⟩ := HR4.out.row.obk_typ hb
          rw [h1] at ho
          cases ho
          cases hc), FrF.of_kps hF6 HV2.out (fun k hk hb => by
        rcases hb with hb | hb
        · exact .inl hb
        · rcases Hloc.out k hb with h | h
          · exact .inr h
          · omega), a6, c6, xs ++ [b], by rw [← List.append_assoc, hys.out]; exact hR6, by rw [List.map_append, Hpre.out]; rfl, (fun g e => by
        rcases hN6 with rfl | ⟨g', rfl, hg'⟩
        · exact Hloc.out g e
        · simp only [obk, Option.some.injEq] at e
          have := HV2.out
          exact .inr (by omega)), hk2.trans hF6 (fun _ h => h) (fun i e hi => by
        rcases e with e | e
        · omega
        · rcases Hloc.out i e with h | h
          · exact h
          · omega)⟩
    have y0 := HR4.out.blk.cell 0
    have yl := HR4.out.blk.lt
    have z0 := hk6.cell 0
    have zf := hk6.frozen 0
    have zl := hk6.lt
    simp only [List.getElem?_cons_zero] at y0 z0
    clear hR4 hk2 hrun hR6 hF6 hN6 hk6 hg2 hr hV2
    gi_wp2_with (gi_at_builtin; refine wpListIn_append_runR rfl _ _ 22 22 rfl _ _ _ _ rfl rfl hr6.out ?_)
    exact HE.out
  case done =>
    rintro D xs V hD hfull ⟨oa3, oc3, ys, hR3, hpre, hloc, hkp⟩ hKD
    have y0 := hR3.blk.cell 0
    have yl := hR3.blk.lt
    simp only [List.getElem?_cons_zero] at y0
    have HR3 := Lib.hid hR3
    clear hR3
    gi_wp2_with (fail)
    refine leaves_mark1 hKD (fun w' hw' => ⟨.slice oa3 (out ++ ys).length oc3, ?_, oa3, oc3, ys, rfl, ?_, hpre.trans hfull, ?_, hkp.trans hw' (fun _ h => h) (fun i e hi => by omega)⟩)
    · simp [results, Try.f68, go_sem]
    · exact (HR3.out.keptK hw' (fun e => by omega) (fun g e hb => by
        subst hb
        obtain ⟨_, cur, k1⟩ := HR3.out.row.obk_typ e
        rw [hKD] at k1
        cases k1)).row
    · exact fun g e => (hloc g e).imp id (fun h => by omega)

/-- Where a byte leads. -/
def bstep (x : Nf) (c a b : Nat) : Prop := ∃ e ∈ x.es, inSp e.q c = true ∧ e.f = (a : Int) ∧ e.t = (b : Int)
/-- What a step comes to. -/
def StQ (w0 W : World) (wb : Nat) (x : Nf) (p : NfL) (L : WkL) (R mn0 c : Nat) (set : List Nat) (oa : Option Addr) (oc : Nat) (out : List Nat) (w' : World) : Prop :=
  OwnI w' W.heap.size oa out.length oc out ∧ (∀ a, a ∈ out ↔ Rn x (fun b => ∃ a ∈ set, bstep x c a b) a) ∧ out.Nodup ∧ (∀ a ∈ out, a < x.n.toNat) ∧ ∃ mn m, WkAt w0 w' wb x p L ((R + 1 : Nat) : Int) mn m ∧ (∀ a, m a = ((R + 1 : Nat) : Int) ↔ a ∈ out) ∧ (∀ a, m a ≤ ((R + 1 : Nat) : Int)) ∧ mn ≤ mn0 + 2000 ∧ Kps (fun k => k = wb ∨ k = L.mb) W w'
theorem Rn.congr {x : Nf} {S T : Nat → Prop} (h : ∀ a, S a ↔ T a) (a : Nat) : Rn x S a ↔ Rn x T a :=
  ⟨Rn.closed (fun a ha => .base ((h a).1 ha)) (fun a b ha hb => .step ha hb), Rn.closed (fun a ha => .base ((h a).2 ha)) (fun a b ha hb => .step ha hb)⟩
theorem OwnI.weak {w : World} {base base' n cap : Nat} {a : Option Addr} {l : List Nat} (h : OwnI w base a n cap l) (hb : base' ≤ base) : OwnI w base' a n cap l :=
  ⟨h.1, h.2.imp id (fun ⟨g, cp, cur, e1, e2, e3⟩ => ⟨g, cp, cur, e1, Nat.le_trans hb e2, e3⟩)⟩
theorem OwnI.some0 {w : World} {base n cap : Nat} {a : Option Addr} {l : List Nat} (h : OwnI w base a n cap l) {b off : Nat} (e : a = some ⟨b, off, none⟩) : obk a = some b := by rw [e]; rfl
/-- What an addition to the row takes in. -/
theorem next_more {x : Nf} {c st : Nat} {l : List Nat} {out xs : List Nat} (h : ∀ b, b ∈ out ↔ ∃ a ∈ l, bstep x c a b) (hx : xs.map (fun v : Nat => (v : Int)) = behE x.es (fun e => inSp e.q c) (st : Int) x.es.length) : ∀ b, b ∈ out ++ xs ↔ ∃ a ∈ l ++ [st], bstep x c a b := by
  have hb : ∀ b, b ∈ xs ↔ bstep x c st b := by
    intro b
    have h1 : b ∈ xs ↔ (b : Int) ∈ xs.map (fun v : Nat => (v : Int)) := by
      rw [List.mem_map]
      exact ⟨fun h => ⟨b, h, rfl⟩, fun ⟨b', h, e⟩ => by obtain rfl : b' = b := by omega
                                                        exact h⟩
    rw [h1, hx, mem_behind]
    exact ⟨fun ⟨e, h1, h2, h3, h4⟩ => ⟨e, h1, h3, h2, h4⟩, fun ⟨e, h1, h2, h3, h4⟩ => ⟨e, h1, h3, h2, h4⟩⟩
  intro b
  rw [List.mem_append, h b, hb b]
  constructor
  · rintro (⟨a, h1, h2⟩ | h1)
    · exact ⟨a, List.mem_append_left _ h1, h2⟩
    · exact ⟨st, by simp, h1⟩
  · rintro ⟨a, h1, h2⟩
    rcases List.mem_append.1 h1 with h1 | h1
    · exact .inl ⟨a, h1, h2⟩
    · rw [List.mem_singleton.1 h1] at h2; exact .inr h2

set_option maxRecDepth 100000 in
set_option maxHeartbeats 4000000 in
theorem nstep_any (w0 W : World) (wb : Nat) (x : Nf) (p : NfL) (L : WkL) (R mn : Nat) (m : Nat → Int) (sa : Option Addr) (sc : Nat) (set : List Nat) (c : Nat) (hW : WkAt w0 W wb x p L (R : Int) mn m) (hx : linkB x = true) (hM : x.es.length ≤ 1000000) (hSM : set.length * x.es.length ≤ 1000000000)
    (hS : IntsN W sa sc set) (hset : ∀ a ∈ set, a < x.n.toNat) (hm : ∀ a, m a ≤ (R : Int)) (hR : R ≤ 1000000000) (hmn : mn ≤ 2000 * R) (hc : c < 256) :
    Calls Try.prog 45 #[.pointer (some ⟨wb, 0, none⟩), .slice sa set.length sc, .int .u8 (c : Int)] W fun e w' => ∃ oa oc out, e = .returned (.slice oa out.length oc) ∧ StQ w0 W wb x p L R mn c set oa oc out w' := by
  obtain ⟨S, hSl⟩ : ∃ S, Hid (set.length = S) := ⟨_, Lib.hid rfl⟩
  have hlm : S ≤ sc ∧ sc ≤ 9223372036854775807 := ⟨by rw [← hSl.out]; have := hS.le; rw [List.length_map] at this; exact this, hS.max⟩
  rw [hSl.out] at hSM ⊢
  have hkW := kps_alloc W (.cells #[.int .u8 (c : Int)] 5)
  have hbx := Blk.new W 5 #[.int .u8 (c : Int)]
  have hsz : (W.alloc (.cells #[.int .u8 (c : Int)] 5)).heap.size = W.heap.size + 1 := by simp
  have hW1 := hW.keptK hkW (fun _ h => h.elim) id id id id
  have hS1 : IntsN (W.alloc (.cells #[.int .u8 (c : Int)] 5)) sa sc set := Ints.keptK hS hkW (fun _ _ _ _ => id)
  have HX := Lib.hid hx
  have hwl : wb < W.heap.size ∧ L.fb < W.heap.size ∧ L.nb < W.heap.size := ⟨hW.box.lt, hW.first.lt, hW.next.lt⟩
  go_enter Try.func45, Try.ntmps45
  go_wp2_with (fail)
  obtain ⟨B, hB⟩ : ∃ B, Hid (W.heap.size = B) := ⟨_, Lib.hid rfl⟩
  rw [hB.out] at hbx hsz hwl ⊢
  generalize W.alloc (.cells #[.int .u8 (c : Int)] 5) = W1 at hkW hbx hsz hW1 hS1 ⊢
  have HW1 := Lib.hid hW1
  have HS1 := Lib.hid hS1
  have Hbx := Lib.hid hbx
  have HkW := Lib.hid hkW
  clear hW1 hS1 hbx hkW hW hS
  go_loopw [8, 10, 14] (fun nv _ iv wr => ∃ (k : Nat) (oa : Option Addr) (oc : Nat) (out : List Nat), k ≤ S ∧ iv = .int .i64 (k : Int) ∧ nv = .slice oa out.length oc ∧ OwnI wr (B + 1) oa out.length oc out ∧ (∀ b, b ∈ out ↔ ∃ a ∈ set.take k, bstep x c a b) ∧ out.length ≤ k * x.es.length ∧ Kps (fun _ => False) W1 wr) (fun _ _ iv _ => S - (intOf iv).toNat)
  case atStart => exact ⟨0, none, 0, [], Nat.zero_le _, rfl, rfl, World.ownsRow_nil _ _ _ _, by simp, by simp, Kps.refl _ _⟩
  case round =>
    obtain ⟨k, oa, oc, out, hk, rfl, rfl, ho, hmem, hol, hkp⟩ := hrel
    have HO := Lib.hid ho
    have Hmem := Lib.hid hmem
    have Hkp := Lib.hid hkp
    clear ho hmem hkp
    have hWr := HW1.out.keptK Hkp.out (fun _ h => h.elim) id id id id
    have hIr : IntsN wr sa sc set := Ints.keptK HS1.out Hkp.out (fun _ _ _ _ => id)
    have hXr := Hkp.out.blk Hbx.out id
    have HWr := Lib.hid hWr
    have HXr := Lib.hid hXr
    clear hWr hXr
    by_cases hlt : k < S
    · have hkI : (k : Int) < (S : Int) := by omega
      have hkI0 : (0 : Int) ≤ (k : Int) := by omega
      have hkl : k < set.length := by rw [hSl.out]; exact hlt
      obtain ⟨b, off, rfl⟩ := hIr.at_ k (by rw [List.length_map]; exact hkl)
      have c0 := hIr.cell b off rfl k (by rw [List.length_map]; exact hkl)
      rw [List.getElem_map] at c0
      have hbl := World.block_lt_of_cell? _ _ c0
      have hst := hset _ (List.getElem_mem hkl)
      have htk : Hid (set.take (k + 1) = set.take k ++ [set[k]]) := Lib.hid (by rw [List.take_add_one, List.getElem?_eq_getElem hkl]; rfl)
      obtain ⟨st, hst0⟩ : ∃ st, Hid (set[k] = st) := ⟨_, Lib.hid rfl⟩
      rw [hst0.out] at c0 hst htk
      clear hIr
      have hol2 : out.length ≤ 1000000000 := Nat.le_trans hol (Nat.le_trans (Nat.mul_le_mul_right _ hk) hSM)
      have hnew : (out.length + x.es.length ≤ (k + 1) * x.es.length) := by rw [Nat.succ_mul]; omega
      have Hol := Lib.hid hol
      have Hnew := Lib.hid hnew
      have Hol2 := Lib.hid hol2
      clear hol hnew hol2
      go_wp2_with (fail)
      refine (behind_any wb 66 #[.pointer (some ⟨B, 0, none⟩)] (st : Int) wr).mono ?_
      rintro e w2 ⟨rfl, hw2⟩
      have hk2 := behind_kps hw2
      have hsz2 : w2.heap.size = wr.heap.size + 3 := by rw [hw2]; simp
      have e0 : w2.cell? ⟨wr.heap.size, 0, none⟩ = some (.pointer (some ⟨wb, 0, none⟩)) := by
        have := (((Blk.new wr 68 #[.pointer (some ⟨wb, 0, none⟩)]).alloc (.cells #[.int .i64 (st : Int)] 3)).alloc (.cells #[.func (.func 66) #[] #[.pointer (some ⟨B, 0, none⟩)]] 54)).cell 0
        rw [hw2]; exact this
      have e1 : w2.cell? ⟨wr.heap.size + 1, 0, none⟩ = some (.int .i64 (st : Int)) := by
        have := ((blkN (wr.alloc (.cells #[.pointer (some ⟨wb, 0, none⟩)] 68)) (wr.heap.size + 1) #[.int .i64 (st : Int)] 3 (by simp)).alloc (.cells #[.func (.func 66) #[] #[.pointer (some ⟨B, 0, none⟩)]] 54)).cell 0
        rw [hw2]; exact this
      have e2 : w2.cell? ⟨wr.heap.size + 2, 0, none⟩ = some (.func (.func 66) #[] #[.pointer (some ⟨B, 0, none⟩)]) := by
        have := (blkN ((wr.alloc (.cells #[.pointer (some ⟨wb, 0, none⟩)] 68)).alloc (.cells #[.int .i64 (st : Int)] 3)) (wr.heap.size + 2) #[.func (.func 66) #[] #[.pointer (some ⟨B, 0, none⟩)]] 54 (by simp)).cell 0
        rw [hw2]; exact this
      have hW2 := HWr.out.keptK hk2 (fun _ h => h.elim) id id id id
      have hr2 : OwnI w2 (B + 1) oa out.length oc out := HO.out.kept (row := none) (by rw [hw2]; exact gbA (gbA (gbA (World.grownBy.refl wr _) _) _) _) (by cases obk oa <;> simp)
      have hkz := Hkp.out.size
      have Hc := Lib.hid (apseq_any w0 w2 (B + 1) x p L wb wr.heap.size st B c oa oc out HW1.out.es HX.out hM (hW2.itK (s := st) e0 e1 e2) (hk2.blk HXr.out id) hc hst hr2 Hol2.out ⟨by have := HW1.out.bel.size; omega, by omega, by omega, by omega, by omega⟩ ⟨by omega, by omega⟩ (fun g e => (HO.out.row g e).2))
      have Hk2 := Lib.hid hk2
      have Hsz2 := Lib.hid hsz2
      clear hw2 hk2 hsz2 e0 e1 e2 hW2 hr2 c0
      go_wp2_with (fail)
      refine Hc.out.mono ?_
      rintro e w3 ⟨oa3, oc3, xs, rfl, ho3, hxs, hloc, hk3⟩
      have Hmem3 : Hid (∀ b, b ∈ out ++ xs ↔ ∃ a ∈ set.take (k + 1), bstep x c a b) := Lib.hid (by rw [htk.out]; exact next_more Hmem.out hxs)
      have hxl : xs.length ≤ x.es.length := by
        have h1 := congrArg List.length hxs
        rw [List.length_map] at h1
        have h2 := behE_len x.es (fun e => inSp e.q c) (st : Int) x.es.length
        omega
      have Hlen3 : Hid ((out ++ xs).length ≤ (k + 1) * x.es.length) := Lib.hid (by rw [List.length_append]; have := Hnew.out; omega)
      have Hkp3 : Hid (Kps (fun _ => False) W1 w3) := Lib.hid ((Hkp.out.trans Hk2.out (fun _ h => h) (fun _ h _ => h)).trans hk3 (fun _ h => h) (fun i e hi => by have := (HO.out.obk_typ e).1; omega))
      have HO3 := Lib.hid ho3
      clear ho3 hxs hloc hk3 hxl
      obtain ⟨ys, hys⟩ : ∃ ys, Hid (out ++ xs = ys) := ⟨_, Lib.hid rfl⟩
      rw [hys.out] at HO3 Hlen3 Hmem3 ⊢
      go_wp2_with (fail)
      exact ⟨⟨k + 1, oa3, oc3, ys, by omega, by simp, rfl, HO3.out, Hmem3.out, Hlen3.out, Hkp3.out⟩, by simp [intOf]; omega⟩
    · obtain rfl : k = S := by omega
      have hkI : ¬ (k : Int) < (k : Int) := by omega
      have hall : set.take k = set := List.take_of_length_le (by rw [hSl.out]; exact Nat.le_refl _)
      have hmem := Hmem.out
      rw [hall] at hmem
      have hnx : ∀ a ∈ out, a < x.n.toNat := fun b hb => by
        obtain ⟨a, _, e, he, _, _, h4⟩ := (hmem b).1 hb
        obtain ⟨_, b', h5, h6⟩ := link_ends HX.out he
        omega
      have Hc := Lib.hid (closed_any w0 wr wb x p L R mn m oa oc out HWr.out HX.out hM HO.out.ints (fun b off e hn eb => HO.out.obk_ne HWr.out.box (by decide) (by rw [HO.out.some0 e, eb])) hnx hm hR hmn)
      have Hm := Lib.hid hmem
      clear hmem hall hIr hol
      go_wp2_with (fail)
      refine Hc.out.mono ?_
      rintro e w3 ⟨oa3, oc3, out3, rfl, ho3, mn3, m3, hW3, hT3, hi3, hk3⟩
      have HQ : Hid (StQ w0 W wb x p L R mn c set oa3 oc3 out3 w3) := Lib.hid ⟨ho3.weak (by rw [hB.out]; have := Hkp.out.size; omega), fun a => (hi3 a).trans (Rn.congr Hm.out a), hT3.nd, hT3.lt, mn3, m3, hW3, hT3.iff, hT3.le, by have h1 := hT3.mn; have h2 := (hT3.len HX.out).2; omega, (HkW.out.mono (fun _ h _ => h.elim)).trans (Hkp.out.trans hk3 (b3 := fun k => k = wb ∨ k = L.mb) (fun _ h => h.elim) (fun _ h _ => h)) (fun _ h => h) (fun _ h _ => h)⟩
      clear ho3 hW3 hT3 hi3 hk3
      go_wp2_with (fail)
      exact bodyPost_ret (v := .slice oa3 out3.length oc3) (by simp [results, Try.results45, go_sem]; try first | rfl | assumption | omega) rfl ⟨oa3, oc3, out3, rfl, HQ.out⟩
end Go.Proofs.Ytpbceejjkdmclaa
