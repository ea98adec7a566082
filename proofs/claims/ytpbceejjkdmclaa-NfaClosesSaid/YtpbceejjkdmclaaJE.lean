/- Texts of layer 2 joined: Nd Ni Nt Wf. -/
import Derived.Test.YtpbceejjkdmclaaJD
import Derived.Test.YtpbceejjkdmclaaJB
import Derived.Test.YtpbceejjkdmclaaJC
import Derived.Stop.RegionWithIn
import Derived.BigRegionIn
import Derived.Sort.QuietIn
import Derived.Sort.CutIn
import Derived.OwnWalkIn
import Derived.StillTail
import Derived.StillTactics
set_option linter.unusedVariables false
set_option linter.unusedSimpArgs false
/- The nodes of an expression: the plain list, and an own row of nodes. -/
namespace Go.Proofs.Ytpbceejjkdmclaa
open Go.RowKit

/-! ### The plain list -/
theorem hasW_fext {f g : Nat → BitVec 64} (h : ∀ c, hasW f c = hasW g c) : f = g := by
  funext i
  apply BitVec.eq_of_getLsbD_eq
  intro r hr
  have := h (64 * i + r)
  unfold hasW at this
  rw [show (64 * i + r) / 64 = i by omega, show (64 * i + r) % 64 = r by omega] at this
  exact this
open Classical in
/-- The words of a list of spans. -/
noncomputable def fS (l : List Sp) : Nat → BitVec 64 := if h : ∃ f : Nat → BitVec 64, ∀ c, hasW f c = inSp l c then Classical.choose h else fun _ => 0
theorem fS_of {l : List Sp} {f : Nat → BitVec 64} (h : ∀ c, hasW f c = inSp l c) : f = fS l := by
  have he : ∃ f : Nat → BitVec 64, ∀ c, hasW f c = inSp l c := ⟨f, h⟩
  unfold fS
  rw [dif_pos he]
  exact hasW_fext fun c => (h c).trans (Classical.choose_spec he c).symm

/-- Node i's next one is v. -/
def setNext (ns : List Nod) (i v : Nat) : List Nod := ns.set i { ns.getD i nod0 with next := (v : Int) }
theorem setNext_length (ns : List Nod) (i v : Nat) : (setNext ns i v).length = ns.length := by simp [setNext]
/-- Where the last one at the depth ahead stands. -/
def upN (last : List Nat) (d : Nat) : Int := if 1 < d then ((last.getD (d - 2) 0 : Nat) : Int) else -1
/-- The nodes so far, one of them with its next one. -/
def ahead (s : List Nod × List Nat) (d : Nat) : List Nod := if d ≤ s.2.length then setNext s.1 (s.2.getD (d - 1) 0) s.1.length else s.1
noncomputable def nodStep (s : List Nod × List Nat) (x : Nd) : List Nod × List Nat :=
  (ahead s x.d ++ [⟨x.h.k, fS x.h.set, upN s.2 x.d, -1⟩], s.2.take (x.d - 1) ++ [s.1.length])
noncomputable def nodsP (l : List Nd) : List Nod × List Nat := l.foldl nodStep ([], [])
theorem nodsP_snoc (l : List Nd) (x : Nd) : nodsP (l ++ [x]) = nodStep (nodsP l) x := by simp [nodsP]
theorem ahead_length (s : List Nod × List Nat) (d : Nat) : (ahead s d).length = s.1.length := by unfold ahead; split <;> simp [setNext_length]

/-- What the last ones are like. -/
def LastOk (s : List Nod × List Nat) : Prop := s.2.length ≤ s.1.length ∧ ∀ v ∈ s.2, v < s.1.length
theorem LastOk.step {s : List Nod × List Nat} (h : LastOk s) (x : Nd) : LastOk (nodStep s x) := by
  obtain ⟨h1, h2⟩ := h
  refine ⟨?_, ?_⟩
  · simp only [nodStep, List.length_append, ahead_length, List.length_take, List.length_singleton]; omega
  · intro v hv
    simp only [nodStep, List.length_append, ahead_length, List.length_singleton] at hv ⊢
    rcases List.mem_append.1 hv with hv | hv
    · have := h2 v (List.mem_of_mem_take hv); omega
    · simp at hv; omega
theorem nodStep_length (s : List Nod × List Nat) (x : Nd) : (nodStep s x).1.length = s.1.length + 1 := by
  show (ahead s x.d ++ [_]).length = _
  rw [List.length_append, ahead_length]; rfl
theorem fold_length (l : List Nd) : ∀ s, (l.foldl nodStep s).1.length = s.1.length + l.length := by
  induction l with
  | nil => intro s; rfl
  | cons x l ih => intro s; rw [List.foldl_cons, ih, nodStep_length, List.length_cons]; omega
theorem nodsP_length (l : List Nd) : (nodsP l).1.length = l.length := by rw [nodsP, fold_length]; simp
theorem fold_ok (l : List Nd) : ∀ s, LastOk s → LastOk (l.foldl nodStep s) := by
  induction l with
  | nil => intro s h; exact h
  | cons x l ih => intro s h; exact ih _ (h.step x)
theorem nodsP_ok (l : List Nd) : LastOk (nodsP l) := fold_ok l _ ⟨Nat.le_refl _, fun v hv => by simp at hv⟩

/-- No depth is jumped over. -/
def OkD : Nat → List Nd → Prop
  | _, [] => True
  | m, x :: xs => 1 ≤ x.d ∧ x.d ≤ m + 1 ∧ OkD x.d xs
theorem okD_pre (f : Fo) : ∀ (d m : Nat) (r : List Nd), 1 ≤ d → d ≤ m + 1 → (∀ m', d ≤ m' + 1 → OkD m' r) → OkD m (f.pre d ++ r) := by
  induction f with
  | nil => intro d m r _ hm h; exact h m hm
  | cons h kids rest ih1 ih2 =>
    intro d m r hd hm hr
    simp only [Fo.pre, List.cons_append, List.append_assoc]
    exact ⟨hd, hm, ih1 (d + 1) d _ (by omega) (by omega) fun m' hm' => ih2 d m' r hd (by omega) hr⟩
theorem okD_fold (l : List Nd) : ∀ (s : List Nod × List Nat) (x : Nd) (r : List Nd), OkD s.2.length (l ++ x :: r) → 1 ≤ x.d ∧ x.d ≤ (l.foldl nodStep s).2.length + 1 := by
  induction l with
  | nil => intro s x r h; exact ⟨h.1, h.2.1⟩
  | cons y l ih =>
    intro s x r h
    refine ih (nodStep s y) x r ?_
    have : (nodStep s y).2.length = y.d := by
      have := h.1; have := h.2.1
      simp only [nodStep, List.length_append, List.length_take, List.length_singleton]; omega
    rw [this]
    exact h.2.2
theorem nodsP_depth (f : Fo) (pre : List Nd) (x : Nd) (r : List Nd) (h : pre ++ [x] ++ r = f.pre 1) : 1 ≤ x.d ∧ x.d ≤ (nodsP pre).2.length + 1 := by
  refine okD_fold pre ([], []) x r ?_
  have := okD_pre f 1 0 [] (Nat.le_refl _) (by omega) (fun _ _ => trivial)
  rw [List.append_nil, ← h] at this
  simpa using this

/-! ### In memory -/
def cellsN (x : Nod) : List Value := .int .i64 x.k :: (wds x.f ++ [.int .i64 x.up, .int .i64 x.next])
def rowN (ns : List Nod) : List Value := ns.flatMap cellsN
theorem cellsN_length (x : Nod) : (cellsN x).length = 7 := rfl
theorem rowN_length (ns : List Nod) : (rowN ns).length = ns.length * 7 := by
  induction ns with
  | nil => rfl
  | cons x ns ih => simp only [rowN, List.flatMap_cons, List.length_append, cellsN_length, List.length_cons] at ih ⊢; rw [ih]; omega
theorem rowN_snoc (ns : List Nod) (x : Nod) : rowN (ns ++ [x]) = rowN ns ++ cellsN x := by simp [rowN]
theorem rowN_at : ∀ (ns : List Nod) (i : Nat) (x : Nod), ns[i]? = some x → ∀ j, j < 7 → (rowN ns)[i * 7 + j]? = (cellsN x)[j]? := by
  intro ns
  induction ns with
  | nil => intro i x h; simp at h
  | cons y ns ih =>
    intro i x h j hj
    simp only [rowN, List.flatMap_cons]
    cases i with
    | zero =>
      simp at h; subst h
      rw [List.getElem?_append_left (by rw [cellsN_length]; omega)]; simp
    | succ i =>
      rw [List.getElem?_append_right (by rw [cellsN_length]; omega), cellsN_length, show (i + 1) * 7 + j - 7 = i * 7 + j by omega]
      exact ih i x (by simpa using h) j hj
theorem rowN_set : ∀ (ns : List Nod) (i : Nat) (x : Nod) (v : Int), ns[i]? = some x → rowN (ns.set i { x with next := v }) = (rowN ns).set (i * 7 + 6) (.int .i64 v) := by
  intro ns
  induction ns with
  | nil => intro i x v h; simp at h
  | cons y ns ih =>
    intro i x v h
    cases i with
    | zero =>
      simp at h; subst h
      simp only [List.set_cons_zero, rowN, List.flatMap_cons]
      rw [List.set_append_left _ _ (by rw [cellsN_length]; omega)]
      rfl
    | succ i =>
      simp only [List.set_cons_succ, rowN, List.flatMap_cons]
      rw [List.set_append_right _ _ (by rw [cellsN_length]; omega), cellsN_length, show (i + 1) * 7 + 6 - 7 = i * 7 + 6 by omega]
      congr 1
      exact ih i x v (by simpa using h)

theorem cells_new (W : World) (l : List Value) (t : TypeId) : ∀ j u, l[j]? = some u → (W.alloc (.cells l.toArray t)).cell? ((⟨W.heap.size, 0, none⟩ : Addr).add j) = some u := by
  intro j u hj
  have := World.alloc_heap_new W (.cells l.toArray t)
  have e : ((⟨W.heap.size, 0, none⟩ : Addr).add j) = ⟨W.heap.size, j, none⟩ := by simp [Addr.add]; exact Eq.symm
  rw [e]
  unfold World.cell?
  rw [show ((⟨W.heap.size, j, none⟩ : Addr).block) = W.heap.size from rfl, this]
  simp only [Option.bind_some]
  simpa using hj

end Go.Proofs.Ytpbceejjkdmclaa

/- nodesOf: what holds between two rounds; append inside a round. -/
namespace Go.Proofs.Ytpbceejjkdmclaa
open Go.RowKit Go.Shelf

attribute [local go_sem] Oper.semAt_some

/-- An own row is no block that the iterator writes. -/
theorem own_ne {W : World} {base e size n : Nat} {v : Value} {xs : List Value} (h : W.ownsRow base e size v n xs) {T : TypeId → Bool} (he : T e = false) {r : Nat} {o : Obj} (ho : W.heap[r]? = some o) (ht : Turns T o) : v.ownBlock ≠ some r := by
  intro hv
  rcases h.2 with ⟨rfl, _⟩ | ⟨g, cap, cur, rfl, hb, hg, _⟩
  · simp [Value.ownBlock] at hv
  · simp only [Value.ownBlock, Option.some.injEq] at hv
    subst hv
    rw [ho] at hg
    cases hg
    rcases ht with hc | ⟨cs, t', fr, e2, ht'⟩
    · cases hc
    · cases e2; rw [he] at ht'; cases ht'

/-- append as one step of a region that draws, inside a round. -/
theorem step_append_runIn {P : Program} {ops : Array Oper} {o : Oper} {l n : Nat} {a : Act} {w : World} {K : Act → World → Prop} {Q : Exit → Act → World → Prop} {E : Prop} (hgd : o.guard = none) (s x : Operand) (t t2 : TypeId)
    (hop : o.op = Op.call { callee := Callee.builtin Builtin.append, args := #[s, x], argTypes := #[t, t2] }) (vs vx v' : Value) (w' : World) (hs : a.eval s = vs) (hx : a.eval x = vx)
    (hrun : (Builtin.append_ #[t, t2] o.type #[vs, vx]).run P w = .ok v' w') (h : K (a.put o.dst v') w') :
    if Region.wanted o (yielded ops a.tmps) = true then Oper.wpIn (Fence.wide.inRound l) n P o a w K Q else E := by
  have hw : Region.wanted o (yielded ops a.tmps) = true := by simp [Region.wanted, hgd]
  rw [if_pos hw]
  refine ⟨fun _ _ => trivial, ?_⟩
  rw [Oper.semAt_eq _ _ _ (by rw [hop]; intro c hc; cases hc)]
  simp [execOp, hop, resolve, invoke, builtin, hs, hx, hrun, Result.andThen]
  exact h
/-- append as one step of a list of operations, inside a round. -/
theorem wpListIn_append_run {P : Program} {w : World} {ops : Array Oper} {rest : List Oper} {o : Oper} {l n : Nat} {a : Act} {Q : Exit → Act → World → Prop} (hg : o.guard = none) (s x : Operand) (t t2 : TypeId)
    (hop : o.op = Op.call { callee := Callee.builtin Builtin.append, args := #[s, x], argTypes := #[t, t2] }) (vs vx v' : Value) (w' : World) (hs : a.eval s = vs) (hx : a.eval x = vx)
    (hrun : (Builtin.append_ #[t, t2] o.type #[vs, vx]).run P w = .ok v' w') (h : wpListIn (Fence.wide.inRound l) n P ops Q rest (a.put o.dst v') w') : wpListIn (Fence.wide.inRound l) n P ops Q (o :: rest) a w := by
  refine wpListIn_plain hg fun K hK' => ?_
  refine ⟨fun _ _ => trivial, ?_⟩
  rw [Oper.semAt_eq _ _ _ (by rw [hop]; intro c hc; cases hc)]
  simp [execOp, hop, resolve, invoke, builtin, hs, hx, hrun, Result.andThen]
  exact hK' _ _ h
end Go.Proofs.Ytpbceejjkdmclaa

/- A region that draws its order, inside a round of a range over a function: where all but a tail only reads, the order of the text serves. -/
namespace Go.Proofs.Ytpbceejjkdmclaa
open Go.RowKit Go.Shelf

section
variable {P : Program} {ops : Array Oper} {md : Region.Mode} {w : World} {l n : Nat}

def noDefer (ops : Array Oper) : Bool := ops.all fun o => match o.op with | .defer _ => false | _ => true
theorem noDefer_at (h : noDefer ops = true) {i : Nat} {o : Oper} (hi : ops[i]? = some o) : ∀ c, o.op ≠ .defer c := by
  intro c hc
  obtain ⟨hlt, e⟩ := Array.getElem?_eq_some_iff.1 hi
  have := (Array.all_eq_true.1 h) i hlt
  rw [e, hc] at this
  cases this

theorem wpInR_of_still {o : Oper} {a : Act} {K : Act → Prop} {K' : Act → World → Prop} {Q' : Exit → Act → World → Prop} (hnd : ∀ c, o.op ≠ .defer c) (h : ∀ a, K a → K' a w) (hh : o.still P a w K) : o.wpIn (Fence.wide.inRound l) n P a w K' Q' := by
  refine ⟨fun _ _ => trivial, ?_⟩
  rw [Oper.semAt_eq _ _ _ hnd]
  unfold Oper.still at hh
  generalize (execOp a.eval o).run P w = r at *
  cases r with
  | ok x w' =>
    cases x <;> simp only [Oper.stillUpon] at hh <;> simp only [Oper.uponIn]
    case enter f args =>
      obtain ⟨rfl, v, hc, hn⟩ := hh
      exact ⟨fun h => (by cases h), ((callsIn_wide (n := n - 1)).2 hc).mono fun e w'' ⟨he, hw⟩ => by subst he; subst hw; exact h _ hn⟩
    all_goals (obtain ⟨rfl, h2⟩ := hh; exact h _ h2)
  | halt x w' => simp only [Oper.stillUpon] at hh

theorem wpOpInR_of_stOp (hnd : noDefer ops = true) {i : Nat} {a : Act} {K : Act → Prop} {K' : Act → World → Prop} {Q' : Exit → Act → World → Prop} (h : ∀ a, K a → K' a w) (hh : stOp P ops w i K a) : wpOpIn (Fence.wide.inRound l) n P ops Q' i K' a w := by
  unfold stOp at hh
  unfold wpOpIn
  split
  · rename_i ho; simp only [ho] at hh; exact h _ hh
  · rename_i o ho
    simp only [ho] at hh
    split
    · rename_i hw; simp only [hw, if_true] at hh; exact wpInR_of_still (noDefer_at hnd ho) h hh
    · rename_i hw; simp only [hw] at hh; exact ⟨fun _ _ => trivial, h _ hh⟩

theorem wpAnyInR_of_head (hnd : noDefer ops = true) {m g : Nat} {L : Array Bool → Act → Prop} {Q' : Exit → Act → World → Prop} (hL : ∀ listed a, L listed a → wpAnyIn (Fence.wide.inRound l) n P md ops Q' g listed a w) :
    ∀ (f : Nat) (listed : Array Bool) (a : Act), wpAnyL P md ops w m L f listed a → wpAnyIn (Fence.wide.inRound l) n P md ops Q' (f + g) listed a w
  | 0, listed, a, h => by rw [Nat.zero_add]; exact hL _ _ h
  | f + 1, listed, a, h => by
    rw [show f + 1 + g = (f + g) + 1 by omega]
    exact ⟨fun h0 => absurd h0 h.1, fun i hi => wpOpInR_of_stOp hnd (fun a' h' => wpAnyInR_of_head hnd hL f _ a' h') (h.2 i hi).2⟩

theorem wpAnyInR_of_seq {Q' : Exit → Act → World → Prop} : ∀ (lo : List Oper) (k : Nat) (listed : Array Bool) (a : Act) (w : World), (∀ j, lo[j]? = ops[k + j]?) →
    Region.seqB md ops lo.length k listed = true → wpListIn (Fence.wide.inRound l) n P ops Q' lo a w → wpAnyIn (Fence.wide.inRound l) n P md ops Q' lo.length listed a w
  | [], _, _, _, _, _, hB, h => ⟨by simpa [Region.seqB] using hB, h⟩
  | o :: lo, k, listed, a, w, hl, hB, h => by
    have h0 : ops[k]? = some o := by simpa using (hl 0).symm
    simp only [List.length_cons, Region.seqB, Bool.and_eq_true, decide_eq_true_eq] at hB
    refine ⟨fun h1 => (by rw [hB.1] at h1; cases h1), fun i hi => ?_⟩
    rw [hB.1] at hi
    have hik : i = k := by simpa using hi
    subst hik
    have hw : wpOpIn (Fence.wide.inRound l) n P ops Q' i (wpListIn (Fence.wide.inRound l) n P ops Q' lo) a w := by unfold wpOpIn; simp only [h0]; exact h
    exact wpOpIn_mono (fun a' w' h' => wpAnyInR_of_seq lo (i + 1) _ a' w' (fun j => by have := hl (j + 1); simpa [Nat.add_assoc, Nat.add_comm 1 j] using this) hB.2 h') hw

/-- All but the tail from m on only reads: the order of the text serves. -/
theorem wpInR_region_still_tail {id : Nat} {Q : Exit → Act → World → Prop} {a : Act} {w : World} {lo : List Oper} (m : Nat) (hm : P.follows .mixedOrders = true) (hnd : noDefer lo.toArray = true) (hB : Region.lexTailB .any lo.toArray m = true)
    (h : wpStill P lo.toArray w.drew (fun a' => wpListIn (Fence.wide.inRound l) n P lo.toArray Q (lo.drop m) a' w.drew) (lo.take m) a) : (Code.region id lo.toArray true).wpIn (Fence.wide.inRound l) n P Q a w := by
  simp only [Region.lexTailB, Bool.and_eq_true, decide_eq_true_eq] at hB
  obtain ⟨⟨⟨⟨hsel, hn⟩, hs⟩, hc⟩, hlex⟩ := hB
  have hn' : m < lo.length := by simpa using hn
  have htl : (lo.take m).length = m := by simp; omega
  have hdl : (lo.drop m).length = lo.toArray.size - m := by simp
  have inv0 : HeadInv .any lo.toArray m (Array.replicate lo.toArray.size false) :=
    ⟨by simp, fun j oj _ hl => (by rw [getD_replicate_false] at hl; cases hl), fun t _ ht => getD_in (by simpa using ht) (getD_replicate_false _ _)⟩
  have H := wpAnyL_lex (md := .any) (g := lo.toArray.size - m) hsel hs hc hn (lo.take m) 0 _ a (fun j hj => by
    have hj' : j < m := by rw [htl] at hj; exact hj
    simp [hj']) (by simpa using htl) inv0 (by rw [htl]; exact hlex) h
  refine wpIn_region_any hm ?_
  have := wpAnyInR_of_head (l := l) (n := n) (Q' := Q) (g := lo.toArray.size - m) hnd (fun listed a' hL => by
    have := wpAnyInR_of_seq (l := l) (n := n) (md := .any) (Q' := Q) (lo.drop m) m listed a' w.drew (fun j => by simp [List.getElem?_drop]) (by rw [hdl]; exact hL.1) hL.2
    rwa [hdl] at this) _ _ _ H
  rw [htl, show m + (lo.toArray.size - m) = lo.toArray.size by omega] at this
  exact this
end

section
variable {P : Program} {ops : Array Oper} {md : Region.Mode} {l n : Nat} {Q : Exit → Act → World → Prop}
theorem wpInR_of_wide {o : Oper} {a : Act} {w : World} {K : Act → World → Prop} (hnd : ∀ c, o.op ≠ .defer c) (h : o.wpIn Fence.wide n P a w K Q) : o.wpIn (Fence.wide.inRound l) n P a w K Q := by
  obtain ⟨_, h2⟩ := h
  refine ⟨fun _ _ => trivial, ?_⟩
  rw [Oper.semAt_eq _ _ _ hnd] at h2 ⊢
  generalize (execOp a.eval o).run P w = r at *
  cases r with
  | ok x w' => cases x <;> exact h2
  | halt x w' => cases x <;> exact h2
theorem wpOpInR_of_wide (hnd : noDefer ops = true) {i : Nat} {a : Act} {w : World} {K : Act → World → Prop} (h : wpOpIn Fence.wide n P ops Q i K a w) : wpOpIn (Fence.wide.inRound l) n P ops Q i K a w := by
  unfold wpOpIn at *
  split
  · rename_i ho; simp only [ho] at h; exact h
  · rename_i o ho
    simp only [ho] at h
    split
    · rename_i hw; simp only [hw, if_true] at h; exact wpInR_of_wide (noDefer_at hnd ho) h
    · rename_i hw; simp only [hw] at h; exact ⟨fun _ _ => trivial, h.2⟩
theorem wpAnyInR_of_wide (hnd : noDefer ops = true) : ∀ (fuel : Nat) (listed : Array Bool) (a : Act) (w : World), wpAnyIn Fence.wide n P md ops Q fuel listed a w → wpAnyIn (Fence.wide.inRound l) n P md ops Q fuel listed a w
  | 0, _, _, _, h => h
  | fuel + 1, _, _, _, h => ⟨h.1, fun i hi => wpOpInR_of_wide hnd (wpOpIn_mono (fun a w => wpAnyInR_of_wide hnd fuel _ a w) (h.2 i hi))⟩
/-- append as one step of a region that draws, inside the wide fence. -/
theorem step_append_runW {o : Oper} {a : Act} {w : World} {K : Act → World → Prop} {E : Prop} (hgd : o.guard = none) (s x : Operand) (t t2 : TypeId)
    (hop : o.op = Op.call { callee := Callee.builtin Builtin.append, args := #[s, x], argTypes := #[t, t2] }) (vs vx v' : Value) (w' : World) (hs : a.eval s = vs) (hx : a.eval x = vx)
    (hrun : (Builtin.append_ #[t, t2] o.type #[vs, vx]).run P w = .ok v' w') (h : K (a.put o.dst v') w') :
    if Region.wanted o (yielded ops a.tmps) = true then Oper.wpIn Fence.wide n P o a w K Q else E := by
  have hw : Region.wanted o (yielded ops a.tmps) = true := by simp [Region.wanted, hgd]
  rw [if_pos hw]
  refine ⟨fun _ _ => trivial, ?_⟩
  rw [Oper.semAt_eq _ _ _ (by rw [hop]; intro c hc; cases hc)]
  simp [execOp, hop, resolve, invoke, builtin, hs, hx, hrun, Result.andThen]
  exact h
end

/-! ### What a round of nodesOf keeps -/
structure Keep (n₀ : Nat) (W W' : World) : Prop where
  oth : KeepsOthers W W'
  spa : Spares n₀ itT W W'
theorem Keep.trans {n₀ : Nat} {A B C : World} (h : Keep n₀ A B) (k : Keep n₀ B C) : Keep n₀ A C := ⟨h.oth.trans k.oth, h.spa.trans k.spa⟩
theorem Keep.grown {n₀ : Nat} {W W' : World} {row : Option Nat} (hg : W.grownBy W' row) (hn : n₀ ≤ W.heap.size) (hr : ∀ r, row = some r → n₀ ≤ r ∧ ∃ cs t fr, W.heap[r]? = some (Obj.cells cs t fr) ∧ itT t = false) : Keep n₀ W W' :=
  ⟨KeepsOthers.of_grownBy hg (fun j o e ho => by obtain ⟨_, cs, t, fr, h1, _⟩ := hr j e; rw [ho] at h1; cases h1; rfl),
   Spares.grown hg hn (fun r e => ⟨(hr r e).1, fun cs t fr hcs => by obtain ⟨_, cs', t', fr', h1, h2⟩ := hr r e; rw [hcs] at h1; cases h1; exact h2⟩)⟩

theorem OwnI.rowT {w : World} {base n cap : Nat} {a : Option Addr} {l : List Nat} (h : OwnI w base a n cap l) : ∀ g, obk a = some g → base ≤ g ∧ ∃ cur, w.heap[g]? = some (.cells cur 3 (0, 0)) := by
  intro g e
  rcases h.2 with ⟨e1, _⟩ | ⟨k, c, cur, e1, hb, hg, _⟩
  · injection e1 with e1 _ _; rw [e1] at e; cases e
  · injection e1 with e1 _ _; rw [e1] at e; cases e; exact ⟨hb, cur, hg⟩
theorem OwnI.getAt {w : World} {base n cap : Nat} {a : Option Addr} {l : List Nat} (h : OwnI w base a n cap l) (e : Nat) (he : e < n) : ∃ g, a = some ⟨g, 0, none⟩ ∧ n ≤ cap ∧ cap ≤ 9223372036854775807 ∧ w.cell? ⟨g, e, none⟩ = some (iv (l.getD e 0)) := by
  have hlen := h.len
  have hc : ∀ g, a = some ⟨g, 0, none⟩ → w.cell? ⟨g, e, none⟩ = (l.map iv)[e]? := fun g hv => by
    subst hv
    exact World.ownsRow.cellAt (show w.ownsRow base 3 1 (.slice (some ⟨g, 0, none⟩) n cap) n (l.map iv) from h) e (by omega)
  rcases h.2 with ⟨e1, e2⟩ | ⟨g, c, cur, e1, hb, hg, h1, h2, h3, h4⟩
  · omega
  · injection e1 with e1 _ e3
    subst e1 e3
    refine ⟨g, rfl, h1, by unfold maxLen at h2; omega, ?_⟩
    rw [hc g rfl, List.getElem?_map, List.getElem?_eq_getElem (by omega), List.getD_eq_getElem?_getD, List.getElem?_eq_getElem (by omega)]
    rfl
theorem ne_type {wx : World} {g b : Nat} {cs cs' : Array Value} {t t' : TypeId} {fr fr' : Nat × Nat} (h : wx.heap[g]? = some (.cells cs t fr)) (h' : wx.heap[b]? = some (.cells cs' t' fr')) (hne : t ≠ t') : g ≠ b := by
  intro e; subst e; rw [h] at h'; cases h'; exact hne rfl

section
variable {w W2 wx wy : World} {bx L M lc tc : Nat} {la ta : Option Addr} {ns : List Nod} {last : List Nat} {x : Nod}
theorem OwnI.takeN {w : World} {base n cap : Nat} {a : Option Addr} {l : List Nat} (h : OwnI w base a n cap l) (e : Nat) (he : e ≤ n) : OwnI w base a e cap (l.take e) := by
  have hlen := h.len
  refine ⟨by simp; omega, ?_⟩
  rcases h.2 with ⟨e1, e2⟩ | ⟨g, c, cur, e1, hb, hg, h1, h2, h3, h4⟩
  · injection e1 with e1 _ e3
    subst e1 e3
    obtain rfl : e = 0 := by omega
    exact .inl ⟨rfl, rfl⟩
  · injection e1 with e1 _ e3
    subst e1 e3
    refine .inr ⟨g, cap, cur, rfl, hb, hg, by omega, h2, h3, ?_⟩
    rw [Nat.mul_one] at h4 ⊢
    rw [List.map_take, ← h4, List.take_take, Nat.min_eq_left he]
theorem OwnI.slc {w : World} {base n cap : Nat} {a : Option Addr} {l : List Nat} (h : OwnI w base a n cap l) : n ≤ cap ∧ cap ≤ 9223372036854775807 ∧ (a = none ∧ cap = 0 ∨ ∃ g, a = some ⟨g, 0, none⟩) := by
  rcases h.2 with ⟨e1, e2⟩ | ⟨g, c, cur, e, hb, hg, h1, h2, h3, h4⟩
  · injection e1 with e1 e2 e3
    subst e1 e2 e3
    exact ⟨by omega, by omega, .inl ⟨rfl, rfl⟩⟩
  · injection e with e1 e2 e3
    subst e1 e3
    exact ⟨h1, by unfold maxLen at h2; omega, .inr ⟨g, rfl⟩⟩
end
end Go.Proofs.Ytpbceejjkdmclaa

/- The list of nodes is well formed, where every expression has just what its kind has. -/
namespace Go.Proofs.Ytpbceejjkdmclaa
open Go.RowKit

theorem Fo.len_size (f : Fo) : f.len ≤ f.size := Fo.len_le f
theorem pre_next (f : Fo) : ∀ (d i : Nat) (x : Nd), (f.pre d)[i]? = some x → 0 < x.len → i + 1 < (f.pre d).length := by
  induction f with
  | nil => intro d i x h; simp [Fo.pre] at h
  | cons h kids rest ihk ihr =>
    intro d i x hx hl
    simp only [Fo.pre] at hx ⊢
    simp only [List.length_cons, List.length_append]
    cases i with
    | zero =>
      simp at hx
      subst hx
      have h1 := Fo.len_le kids
      have h2 := Fo.pre_length kids (d + 1)
      simp only at hl
      omega
    | succ i =>
      rw [List.getElem?_cons_succ] at hx
      by_cases hi : i < (kids.pre (d + 1)).length
      · rw [List.getElem?_append_left hi] at hx
        have := ihk (d + 1) i x hx hl
        omega
      · rw [List.getElem?_append_right (by omega)] at hx
        have := ihr d _ x hx hl
        omega

/-- Of nodes made so far: where next and up lead. -/
def LinkOk (s : List Nod × List Nat) : Prop := ∀ i x, s.1[i]? = some x → (x.next = -1 ∨ ∃ j : Nat, x.next = (j : Int) ∧ i < j ∧ j < s.1.length) ∧ (x.up = -1 ∨ ∃ j : Nat, x.up = (j : Int) ∧ j < s.1.length)
theorem setNext_at (ns : List Nod) (i v k : Nat) (x : Nod) (h : (setNext ns i v)[k]? = some x) : ∃ y, ns[k]? = some y ∧ x.k = y.k ∧ x.f = y.f ∧ x.up = y.up ∧ ((k = i ∧ x.next = (v : Int)) ∨ (k ≠ i ∧ x = y)) := by
  unfold setNext at h
  rw [List.getElem?_set] at h
  by_cases e : i = k
  · subst e
    rw [if_pos rfl] at h
    by_cases hi : i < ns.length
    · rw [if_pos hi] at h
      have hg := getD_of hi
      cases h
      exact ⟨_, hg, rfl, rfl, rfl, .inl ⟨rfl, rfl⟩⟩
    · rw [if_neg hi] at h; cases h
  · rw [if_neg e] at h
    exact ⟨x, h, rfl, rfl, rfl, .inr ⟨fun e2 => e e2.symm, rfl⟩⟩
theorem ahead_at (s : List Nod × List Nat) (d k : Nat) (x : Nod) (h : (ahead s d)[k]? = some x) : ∃ y, s.1[k]? = some y ∧ x.k = y.k ∧ x.f = y.f ∧ x.up = y.up ∧ (x.next = y.next ∨ (x.next = (s.1.length : Int) ∧ k < s.1.length)) := by
  unfold ahead at h
  split at h
  · obtain ⟨y, h1, h2, h3, h4, h5⟩ := setNext_at _ _ _ _ _ h
    refine ⟨y, h1, h2, h3, h4, ?_⟩
    rcases h5 with ⟨_, h5⟩ | ⟨_, h5⟩
    · exact .inr ⟨h5, (List.getElem?_eq_some_iff.1 h1).1⟩
    · exact .inl (by rw [h5])
  · exact ⟨x, h, rfl, rfl, rfl, .inl rfl⟩
theorem LinkOk.step {s : List Nod × List Nat} (hl : LastOk s) (h : LinkOk s) (y : Nd) : LinkOk (nodStep s y) := by
  intro i x hx
  have hlen := nodStep_length s y
  simp only [nodStep] at hx
  rw [hlen]
  by_cases hi : i < s.1.length
  · rw [List.getElem?_append_left (by rw [ahead_length]; exact hi)] at hx
    obtain ⟨z, h1, -, -, h4, h5⟩ := ahead_at _ _ _ _ hx
    obtain ⟨k1, k2⟩ := h i z h1
    refine ⟨?_, ?_⟩
    · rcases h5 with h5 | ⟨h5, _⟩
      · rcases k1 with k1 | ⟨j, k1, k3, k4⟩
        · exact .inl (h5.trans k1)
        · exact .inr ⟨j, h5.trans k1, k3, by omega⟩
      · exact .inr ⟨s.1.length, h5, hi, by omega⟩
    · rcases k2 with k2 | ⟨j, k2, k3⟩
      · exact .inl (h4.trans k2)
      · exact .inr ⟨j, h4.trans k2, by omega⟩
  · rw [List.getElem?_append_right (by rw [ahead_length]; omega), ahead_length] at hx
    have : i - s.1.length = 0 := by
      have := (List.getElem?_eq_some_iff.1 hx).1
      simp at this
      omega
    rw [this] at hx
    simp at hx
    subst hx
    refine ⟨.inl rfl, ?_⟩
    simp only [upN]
    split
    · refine .inr ⟨_, rfl, ?_⟩
      rw [List.getD_eq_getElem?_getD]
      cases hg : s.2[y.d - 2]? with
      | none => simp
      | some v => have := hl.2 v (List.mem_of_getElem? hg); simp; omega
    · exact .inl rfl
theorem fold_link (l : List Nd) : ∀ s, LastOk s → LinkOk s → LinkOk (l.foldl nodStep s) := by
  induction l with
  | nil => intro s _ h; exact h
  | cons x l ih => intro s h1 h2; exact ih _ (h1.step x) (h2.step h1 x)
theorem nodsP_link (l : List Nd) : LinkOk (nodsP l) := fold_link l _ ⟨Nat.le_refl _, fun v hv => by simp at hv⟩ (fun i x h => by simp at h)
/-- Kinds and sets are the expressions'. -/
def KfOk (l : List Nd) (s : List Nod × List Nat) : Prop := s.1.length = l.length ∧ ∀ (i : Nat) (x : Nod), s.1[i]? = some x → ∃ y : Nd, l[i]? = some y ∧ x.k = y.h.k ∧ x.f = fS y.h.set
theorem KfOk.step {l : List Nd} {s : List Nod × List Nat} (h : KfOk l s) (y : Nd) : KfOk (l ++ [y]) (nodStep s y) := by
  obtain ⟨h1, h2⟩ := h
  refine ⟨by rw [nodStep_length]; simp [h1], ?_⟩
  intro i x hx
  simp only [nodStep] at hx
  by_cases hi : i < s.1.length
  · rw [List.getElem?_append_left (by rw [ahead_length]; exact hi)] at hx
    obtain ⟨z, k1, k2, k3, -, -⟩ := ahead_at _ _ _ _ hx
    obtain ⟨u, e1, e2, e3⟩ := h2 i z k1
    exact ⟨u, by rw [List.getElem?_append_left (by omega)]; exact e1, k2.trans e2, k3.trans e3⟩
  · rw [List.getElem?_append_right (by rw [ahead_length]; omega), ahead_length] at hx
    have h0 : i - s.1.length = 0 := by
      have := (List.getElem?_eq_some_iff.1 hx).1
      simp at this
      omega
    rw [h0] at hx
    simp at hx
    subst hx
    refine ⟨y, ?_, rfl, rfl⟩
    rw [List.getElem?_append_right (by omega), show i - l.length = 0 by omega]
    rfl
theorem fold_kf (l : List Nd) : ∀ (l0 : List Nd) s, KfOk l0 s → KfOk (l0 ++ l) (l.foldl nodStep s) := by
  induction l with
  | nil => intro l0 s h; simpa using h
  | cons x l ih => intro l0 s h; have := ih _ _ (h.step x); simpa using this
theorem nodsP_kf (l : List Nd) : KfOk l (nodsP l) := by
  have := fold_kf l [] ([], []) ⟨rfl, fun i x h => by simp at h⟩
  rw [List.nil_append] at this
  exact this
theorem plain_kids {h : Hd} {n : Nat} (hp : plainB h n = true) : (h.k = 1 ∨ h.k = 2) ∨ 0 < n := by
  unfold plainB at hp
  by_cases h1 : h.k = 1
  · exact .inl (.inl h1)
  by_cases h2 : h.k = 2
  · exact .inl (.inr h2)
  right
  rw [if_neg (by simpa using h1), if_neg (by simpa using h2)] at hp
  split at hp
  · simp at hp; omega
  · split at hp
    · simp at hp; omega
    · cases hp
theorem nodsP_wf (f : Fo) (hp : (f.pre 1).all (fun x => plainB x.h x.len) = true) : NodWf (nodsP (f.pre 1)).1 := by
  intro i x hx
  obtain ⟨hlen, hk⟩ := nodsP_kf (f.pre 1)
  obtain ⟨y, e1, e2, e3⟩ := hk i x hx
  obtain ⟨l1, l2⟩ := nodsP_link (f.pre 1) i x hx
  refine ⟨?_, l1, l2⟩
  have := List.all_eq_true.1 hp y (List.mem_of_getElem? e1)
  rcases plain_kids this with h | h
  · rw [e2]; exact .inl h
  · rw [hlen]; exact .inr (pre_next f 1 i y e1 h)
end Go.Proofs.Ytpbceejjkdmclaa
