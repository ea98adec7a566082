/- Texts of layer 2 joined: Nd Ni Nt Wf. -/
import Derived.Test.YtkdfobnkebkpfaaJD
import Derived.Test.YtkdfobnkebkpfaaJB
import Derived.Test.YtkdfobnkebkpfaaJC
import Derived.Stop.RegionWithIn
import Derived.BigRegionIn
import Derived.Sort.QuietIn
import Derived.Sort.CutIn
import Derived.OwnWalkIn
import Derived.StillTail
import Derived.StillTactics
set_option linter.unusedVariables false
set_option linter.unusedSimpArgs false
/- The nodes of an expression: the plain list, and an own row of nodes. -/
namespace Go.Proofs.Ytkdfobnkebkpfaa
open Go.RowKit

/-! ### The plain list -/
theorem hasW_fext {f g : Nat → BitVec 64} (h : ∀ c, hasW f c = hasW g c) : f = g := by
  funext i
  apply BitVec.eq_of_getLsbD_eq
  intro r hr
  have := h (64 * i + r)
  unfold hasW at this
  rw [show (64 * i + r) / 64 = i by omega, show (64 * i + r) % 64 = r by omega] at this
  exact this
open Classical in
/-- The words of a list of spans. -/
noncomputable def fS (l : List Sp) : Nat → BitVec 64 := if h : ∃ f : Nat → BitVec 64, ∀ c, hasW f c = inSp l c then Classical.choose h else fun _ => 0
theorem fS_of {l : List Sp} {f : Nat → BitVec 64} (h : ∀ c, hasW f c = inSp l c) : f = fS l := by
  have he : ∃ f : Nat → BitVec 64, ∀ c, hasW f c = inSp l c := ⟨f, h⟩
  unfold fS
  rw [dif_pos he]
  exact hasW_fext fun c => (h c).trans (Classical.choose_spec he c).symm

/-- Node i's next one is v. -/
def setNext (ns : List Nod) (i v : Nat) : List Nod := ns.set i { ns.getD i nod0 with next := (v : Int) }
theorem setNext_length (ns : List Nod) (i v : Nat) : (setNext ns i v).length = ns.length := by simp [setNext]
/-- Where the last one at the depth ahead stands. -/
def upN (last : List Nat) (d : Nat) : Int := if 1 < d then ((last.getD (d - 2) 0 : Nat) : Int) else -1
/-- The nodes so far, one of them with its next one. -/
def ahead (s : List Nod × List Nat) (d : Nat) : List Nod := if d ≤ s.2.length then setNext s.1 (s.2.getD (d - 1) 0) s.1.length else s.1
noncomputable def nodStep (s : List Nod × List Nat) (x : Nd) : List Nod × List Nat :=
  (ahead s x.d ++ [⟨x.h.k, fS x.h.set, upN s.2 x.d, -1⟩], s.2.take (x.d - 1) ++ [s.1.length])
noncomputable def nodsP (l : List Nd) : List Nod × List Nat := l.foldl nodStep ([], [])
theorem nodsP_snoc (l : List Nd) (x : Nd) : nodsP (l ++ [x]) = nodStep (nodsP l) x := by simp [nodsP]
theorem ahead_length (s : List Nod × List Nat) (d : Nat) : (ahead s d).length = s.1.length := by unfold ahead; split <;> simp [setNext_length]

/-- What the last ones are like. -/
def LastOk (s : List Nod × List Nat) : Prop := s.2.length ≤ s.1.length ∧ ∀ v ∈ s.2, v < s.1.length
theorem LastOk.step {s : List Nod × List Nat} (h : LastOk s) (x : Nd) : LastOk (nodStep s x) := by
  obtain ⟨h1, h2⟩ := h
  refine ⟨?_, ?_⟩
  · simp only [nodStep, List.length_append, ahead_length, List.length_take, List.length_singleton]; omega
  · intro v hv
    simp only [nodStep, List.length_append, ahead_length, List.length_singleton] at hv ⊢
    rcases List.mem_append.1 hv with hv | hv
    · have := h2 v (List.mem_of_mem_take hv); omega
    · simp at hv; omega
theorem nodStep_length (s : List Nod × List Nat) (x : Nd) : (nodStep s x).1.length = s.1.length + 1 := by
  show (ahead s x.d ++ [_]).length = _
  rw [List.length_append, ahead_length]; rfl
theorem fold_length (l : List Nd) : ∀ s, (l.foldl nodStep s).1.length = s.1.length + l.length := by
  induction l with
  | nil => intro s; rfl
  | cons x l ih => intro s; rw [List.foldl_cons, ih, nodStep_length, List.length_cons]; omega
theorem nodsP_length (l : List Nd) : (nodsP l).1.length = l.length := by rw [nodsP, fold_length]; simp
theorem fold_ok (l : List Nd) : ∀ s, LastOk s → LastOk (l.foldl nodStep s) := by
  induction l with
  | nil => intro s h; exact h
  | cons x l ih => intro s h; exact ih _ (h.step x)
theorem nodsP_ok (l : List Nd) : LastOk (nodsP l) := fold_ok l _ ⟨Nat.le_refl _, fun v hv => by simp at hv⟩

/-- No depth is jumped over. -/
def OkD : Nat → List Nd → Prop
  | _, [] => True
  | m, x :: xs => 1 ≤ x.d ∧ x.d ≤ m + 1 ∧ OkD x.d xs
theorem okD_pre (f : Fo) : ∀ (d m : Nat) (r : List Nd), 1 ≤ d → d ≤ m + 1 → (∀ m', d ≤ m' + 1 → OkD m' r) → OkD m (f.pre d ++ r) := by
  induction f with
  | nil => intro d m r _ hm h; exact h m hm
  | cons h kids rest ih1 ih2 =>
    intro d m r hd hm hr
    simp only [Fo.pre, List.cons_append, List.append_assoc]
    exact ⟨hd, hm, ih1 (d + 1) d _ (by omega) (by omega) fun m' hm' => ih2 d m' r hd (by omega) hr⟩
theorem okD_fold (l : List Nd) : ∀ (s : List Nod × List Nat) (x : Nd) (r : List Nd), OkD s.2.length (l ++ x :: r) → 1 ≤ x.d ∧ x.d ≤ (l.foldl nodStep s).2.length + 1 := by
  induction l with
  | nil => intro s x r h; exact ⟨h.1, h.2.1⟩
  | cons y l ih =>
    intro s x r h
    refine ih (nodStep s y) x r ?_
    have : (nodStep s y).2.length = y.d := by
      have := h.1; have := h.2.1
      simp only [nodStep, List.length_append, List.length_take, List.length_singleton]; omega
    rw [this]
    exact h.2.2
theorem nodsP_depth (f : Fo) (pre : List Nd) (x : Nd) (r : List Nd) (h : pre ++ [x] ++ r = f.pre 1) : 1 ≤ x.d ∧ x.d ≤ (nodsP pre).2.length + 1 := by
  refine okD_fold pre ([], []) x r ?_
  have := okD_pre f 1 0 [] (Nat.le_refl _) (by omega) (fun _ _ => trivial)
  rw [List.append_nil, ← h] at this
  simpa using this

/-! ### In memory -/
def cellsN (x : Nod) : List Value := .int .i64 x.k :: (wds x.f ++ [.int .i64 x.up, .int .i64 x.next])
def rowN (ns : List Nod) : List Value := ns.flatMap cellsN
theorem cellsN_length (x : Nod) : (cellsN x).length = 7 := rfl
theorem rowN_length (ns : List Nod) : (rowN ns).length = ns.length * 7 := by
  induction ns with
  | nil => rfl
  | cons x ns ih => simp only [rowN, List.flatMap_cons, List.length_append, cellsN_length, List.length_cons] at ih ⊢; rw [ih]; omega
theorem rowN_snoc (ns : List Nod) (x : Nod) : rowN (ns ++ [x]) = rowN ns ++ cellsN x := by simp [rowN]
theorem rowN_at : ∀ (ns : List Nod) (i : Nat) (x : Nod), ns[i]? = some x → ∀ j, j < 7 → (rowN ns)[i * 7 + j]? = (cellsN x)[j]? := by
  intro ns
  induction ns with
  | nil => intro i x h; simp at h
  | cons y ns ih =>
    intro i x h j hj
    simp only [rowN, List.flatMap_cons]
    cases i with
    | zero =>
      simp at h; subst h
      rw [List.getElem?_append_left (by rw [cellsN_length]; omega)]; simp
    | succ i =>
      rw [List.getElem?_append_right (by rw [cellsN_length]; omega), cellsN_length, show (i + 1) * 7 + j - 7 = i * 7 + j by omega]
      exact ih i x (by simpa using h) j hj
theorem rowN_set : ∀ (ns : List Nod) (i : Nat) (x : Nod) (v : Int), ns[i]? = some x → rowN (ns.set i { x with next := v }) = (rowN ns).set (i * 7 + 6) (.int .i64 v) := by
  intro ns
  induction ns with
  | nil => intro i x v h; simp at h
  | cons y ns ih =>
    intro i x v h
    cases i with
    | zero =>
      simp at h; subst h
      simp only [List.set_cons_zero, rowN, List.flatMap_cons]
      rw [List.set_append_left _ _ (by rw [cellsN_length]; omega)]
      rfl
    | succ i =>
      simp only [List.set_cons_succ, rowN, List.flatMap_cons]
      rw [List.set_append_right _ _ (by rw [cellsN_length]; omega), cellsN_length, show (i + 1) * 7 + 6 - 7 = i * 7 + 6 by omega]
      congr 1
      exact ih i x v (by simpa using h)

/-- An own row of nodes. -/
def OwnN (w : World) (base : Nat) (a : Option Addr) (n cap : Nat) (ns : List Nod) : Prop := w.ownsRow base 98 7 (.slice a n cap) n (rowN ns)
theorem OwnN.len {w : World} {base n cap : Nat} {a : Option Addr} {ns : List Nod} (h : OwnN w base a n cap ns) : n = ns.length := by have := h.1; rw [rowN_length] at this; omega
theorem info_node : (Try.prog.info? 98).map (fun i => (i.zero, i.size, i.bytes)) = some (some (.agg #[.int .i64 0, .int .u64 0, .int .u64 0, .int .u64 0, .int .u64 0, .int .i64 0, .int .i64 0]), 7, 56) := by kernel_rfl
theorem cells_new (W : World) (l : List Value) (t : TypeId) : ∀ j u, l[j]? = some u → (W.alloc (.cells l.toArray t)).cell? ((⟨W.heap.size, 0, none⟩ : Addr).add j) = some u := by
  intro j u hj
  have := World.alloc_heap_new W (.cells l.toArray t)
  have e : ((⟨W.heap.size, 0, none⟩ : Addr).add j) = ⟨W.heap.size, j, none⟩ := by simp [Addr.add]; exact Eq.symm
  rw [e]
  unfold World.cell?
  rw [show ((⟨W.heap.size, j, none⟩ : Addr).block) = W.heap.size from rfl, this]
  simp only [Option.bind_some]
  simpa using hj

/-- A node is put onto an own row of nodes. -/
theorem run_pushN (w : World) (ty : TypeId) {base n cap : Nat} {a : Option Addr} {ns : List Nod} (x : Nod) (hown : OwnN w base a n cap ns) (hn : n + 1 ≤ 1099511627780) (hbase : base ≤ w.heap.size) :
    ∃ a' cap' w', (Builtin.append_ #[70, 70] ty #[.slice a n cap, .slice (some ⟨w.heap.size, 0, none⟩) 1 1]).run Try.prog (w.alloc (.cells (cellsN x).toArray 98)) = .ok (.slice a' (n + 1) cap') w' ∧
      OwnN w' base a' (n + 1) cap' (ns ++ [x]) ∧ w.grownBy w' (Value.slice a n cap).ownBlock := by
  obtain ⟨i0, hi, hz0, hz1, hz2⟩ := info_parts info_node
  obtain ⟨y, w', hrun, ho, hg, _⟩ := run_append_own (P := Try.prog) (w.alloc (.cells (cellsN x).toArray 98)) base 70 ty 98 i0 _ 7 56 Try.underlying70 hi hz0 hz1 hz2 rfl (by decide) _ n _ (World.ownsRow.alloc hown _) ⟨w.heap.size, 0, none⟩ 1 1 (cellsN x) rfl (cells_new w _ _) (by simp [cellsN, wds, Value.oneCell']) (by unfold maxLen; omega) (by omega) (by simp; omega)
  obtain ⟨a', cap', rfl⟩ := slice_of_own ho
  exact ⟨a', cap', w', hrun, by rw [OwnN, rowN_snoc]; exact ho, grownBy_trans (World.grownBy_alloc w _ _) hg (fun i e => .inl e)⟩

/-- Node i of an own row. -/
theorem OwnN.at {w : World} {base g n cap : Nat} {ns : List Nod} (h : OwnN w base (some ⟨g, 0, none⟩) n cap ns) {i : Nat} {x : Nod} (hx : ns[i]? = some x) : NodAt w g (0 + i * 7) x := by
  have hi : i < ns.length := (List.getElem?_eq_some_iff.1 hx).1
  have hl := h.len
  have hc : ∀ j, j < 7 → w.cell? ⟨g, 0 + i * 7 + j, none⟩ = (cellsN x)[j]? := by
    intro j hj
    rw [← rowN_at ns i x hx j hj, Nat.zero_add]
    exact World.ownsRow.cellAt h _ (by omega)
  refine ⟨by simpa [cellsN] using hc 0 (by omega), ?_, hc 5 (by omega), hc 6 (by omega)⟩
  intro j hj
  have := hc (1 + j) (by omega)
  rw [show 0 + i * 7 + (1 + j) = 0 + i * 7 + 1 + j by omega] at this
  rw [this]
  match j, hj with
  | 0, _ => rfl
  | 1, _ => rfl
  | 2, _ => rfl
  | 3, _ => rfl
end Go.Proofs.Ytkdfobnkebkpfaa

/- nodesOf: what holds between two rounds; append inside a round. -/
namespace Go.Proofs.Ytkdfobnkebkpfaa
open Go.RowKit Go.Shelf

attribute [local go_sem] Oper.semAt_some

/-- An own row is no block that the iterator writes. -/
theorem own_ne {W : World} {base e size n : Nat} {v : Value} {xs : List Value} (h : W.ownsRow base e size v n xs) {T : TypeId → Bool} (he : T e = false) {r : Nat} {o : Obj} (ho : W.heap[r]? = some o) (ht : Turns T o) : v.ownBlock ≠ some r := by
  intro hv
  rcases h.2 with ⟨rfl, _⟩ | ⟨g, cap, cur, rfl, hb, hg, _⟩
  · simp [Value.ownBlock] at hv
  · simp only [Value.ownBlock, Option.some.injEq] at hv
    subst hv
    rw [ho] at hg
    cases hg
    rcases ht with hc | ⟨cs, t', fr, e2, ht'⟩
    · cases hc
    · cases e2; rw [he] at ht'; cases ht'

/-- Between two rounds. -/
def NdI (w : World) (pre : List Nx) (W : World) : Prop :=
  Below w.heap.size w W ∧ ∃ la lc ta tc, Boxed W (w.heap.size + 1) 70 (.slice la pre.length lc) ∧ Boxed W (w.heap.size + 1 + 1) 71 (.slice ta (nodsP (pre.map (·.nd))).2.length tc) ∧
    OwnN W w.heap.size la pre.length lc (nodsP (pre.map (·.nd))).1 ∧ OwnI W w.heap.size ta (nodsP (pre.map (·.nd))).2.length tc (nodsP (pre.map (·.nd))).2

theorem bears_nd (w : World) (B : Nat) (hB : w.heap.size ≤ B) : Bears B itT (NdI w) := by
  rintro s W W' row ⟨h1, la, lc, ta, tc, h2, h3, h4, h5⟩ hg hr
  have key : ∀ {e size n : Nat} {v : Value} {xs : List Value}, itT e = false → W.ownsRow w.heap.size e size v n xs → W'.ownsRow w.heap.size e size v n xs := by
    intro e size n v xs he h
    refine h.kept hg ?_
    cases row with
    | none => rcases hv : v.ownBlock with _ | k <;> simp
    | some r =>
      obtain ⟨_, o, ho, ht⟩ := hr r rfl
      exact .inr (own_ne h he ho ht)
  refine ⟨h1.grown hg h1.size (fun k e => by have := (hr k e).1; omega), la, lc, ta, tc, ?_, ?_, key (by decide) h4, key (by decide) h5⟩
  · exact bears_boxed B _ _ (by decide) (fun _ : Unit => .slice la s.length lc) () W W' row h2 hg hr
  · exact bears_boxed B _ _ (by decide) (fun _ : Unit => .slice ta _ tc) () W W' row h3 hg hr

/-- append as one step of a region that draws, inside a round. -/
theorem step_append_runIn {P : Program} {ops : Array Oper} {o : Oper} {l n : Nat} {a : Act} {w : World} {K : Act → World → Prop} {Q : Exit → Act → World → Prop} {E : Prop} (hgd : o.guard = none) (s x : Operand) (t t2 : TypeId)
    (hop : o.op = Op.call { callee := Callee.builtin Builtin.append, args := #[s, x], argTypes := #[t, t2] }) (vs vx v' : Value) (w' : World) (hs : a.eval s = vs) (hx : a.eval x = vx)
    (hrun : (Builtin.append_ #[t, t2] o.type #[vs, vx]).run P w = .ok v' w') (h : K (a.put o.dst v') w') :
    if Region.wanted o (yielded ops a.tmps) = true then Oper.wpIn (Fence.wide.inRound l) n P o a w K Q else E := by
  have hw : Region.wanted o (yielded ops a.tmps) = true := by simp [Region.wanted, hgd]
  rw [if_pos hw]
  refine ⟨fun _ _ => trivial, ?_⟩
  rw [Oper.semAt_eq _ _ _ (by rw [hop]; intro c hc; cases hc)]
  simp [execOp, hop, resolve, invoke, builtin, hs, hx, hrun, Result.andThen]
  exact h
/-- append as one step of a list of operations, inside a round. -/
theorem wpListIn_append_run {P : Program} {w : World} {ops : Array Oper} {rest : List Oper} {o : Oper} {l n : Nat} {a : Act} {Q : Exit → Act → World → Prop} (hg : o.guard = none) (s x : Operand) (t t2 : TypeId)
    (hop : o.op = Op.call { callee := Callee.builtin Builtin.append, args := #[s, x], argTypes := #[t, t2] }) (vs vx v' : Value) (w' : World) (hs : a.eval s = vs) (hx : a.eval x = vx)
    (hrun : (Builtin.append_ #[t, t2] o.type #[vs, vx]).run P w = .ok v' w') (h : wpListIn (Fence.wide.inRound l) n P ops Q rest (a.put o.dst v') w') : wpListIn (Fence.wide.inRound l) n P ops Q (o :: rest) a w := by
  refine wpListIn_plain hg fun K hK' => ?_
  refine ⟨fun _ _ => trivial, ?_⟩
  rw [Oper.semAt_eq _ _ _ (by rw [hop]; intro c hc; cases hc)]
  simp [execOp, hop, resolve, invoke, builtin, hs, hx, hrun, Result.andThen]
  exact hK' _ _ h
end Go.Proofs.Ytkdfobnkebkpfaa

/- A region that draws its order, inside a round of a range over a function: where all but a tail only reads, the order of the text serves. -/
namespace Go.Proofs.Ytkdfobnkebkpfaa
open Go.RowKit Go.Shelf

section
variable {P : Program} {ops : Array Oper} {md : Region.Mode} {w : World} {l n : Nat}

def noDefer (ops : Array Oper) : Bool := ops.all fun o => match o.op with | .defer _ => false | _ => true
theorem noDefer_at (h : noDefer ops = true) {i : Nat} {o : Oper} (hi : ops[i]? = some o) : ∀ c, o.op ≠ .defer c := by
  intro c hc
  obtain ⟨hlt, e⟩ := Array.getElem?_eq_some_iff.1 hi
  have := (Array.all_eq_true.1 h) i hlt
  rw [e, hc] at this
  cases this

theorem wpInR_of_still {o : Oper} {a : Act} {K : Act → Prop} {K' : Act → World → Prop} {Q' : Exit → Act → World → Prop} (hnd : ∀ c, o.op ≠ .defer c) (h : ∀ a, K a → K' a w) (hh : o.still P a w K) : o.wpIn (Fence.wide.inRound l) n P a w K' Q' := by
  refine ⟨fun _ _ => trivial, ?_⟩
  rw [Oper.semAt_eq _ _ _ hnd]
  unfold Oper.still at hh
  generalize (execOp a.eval o).run P w = r at *
  cases r with
  | ok x w' =>
    cases x <;> simp only [Oper.stillUpon] at hh <;> simp only [Oper.uponIn]
    case enter f args =>
      obtain ⟨rfl, v, hc, hn⟩ := hh
      exact ⟨fun h => (by cases h), ((callsIn_wide (n := n - 1)).2 hc).mono fun e w'' ⟨he, hw⟩ => by subst he; subst hw; exact h _ hn⟩
    all_goals (obtain ⟨rfl, h2⟩ := hh; exact h _ h2)
  | halt x w' => simp only [Oper.stillUpon] at hh

theorem wpOpInR_of_stOp (hnd : noDefer ops = true) {i : Nat} {a : Act} {K : Act → Prop} {K' : Act → World → Prop} {Q' : Exit → Act → World → Prop} (h : ∀ a, K a → K' a w) (hh : stOp P ops w i K a) : wpOpIn (Fence.wide.inRound l) n P ops Q' i K' a w := by
  unfold stOp at hh
  unfold wpOpIn
  split
  · rename_i ho; simp only [ho] at hh; exact h _ hh
  · rename_i o ho
    simp only [ho] at hh
    split
    · rename_i hw; simp only [hw, if_true] at hh; exact wpInR_of_still (noDefer_at hnd ho) h hh
    · rename_i hw; simp only [hw] at hh; exact ⟨fun _ _ => trivial, h _ hh⟩

theorem wpAnyInR_of_head (hnd : noDefer ops = true) {m g : Nat} {L : Array Bool → Act → Prop} {Q' : Exit → Act → World → Prop} (hL : ∀ listed a, L listed a → wpAnyIn (Fence.wide.inRound l) n P md ops Q' g listed a w) :
    ∀ (f : Nat) (listed : Array Bool) (a : Act), wpAnyL P md ops w m L f listed a → wpAnyIn (Fence.wide.inRound l) n P md ops Q' (f + g) listed a w
  | 0, listed, a, h => by rw [Nat.zero_add]; exact hL _ _ h
  | f + 1, listed, a, h => by
    rw [show f + 1 + g = (f + g) + 1 by omega]
    exact ⟨fun h0 => absurd h0 h.1, fun i hi => wpOpInR_of_stOp hnd (fun a' h' => wpAnyInR_of_head hnd hL f _ a' h') (h.2 i hi).2⟩

theorem wpAnyInR_of_seq {Q' : Exit → Act → World → Prop} : ∀ (lo : List Oper) (k : Nat) (listed : Array Bool) (a : Act) (w : World), (∀ j, lo[j]? = ops[k + j]?) →
    Region.seqB md ops lo.length k listed = true → wpListIn (Fence.wide.inRound l) n P ops Q' lo a w → wpAnyIn (Fence.wide.inRound l) n P md ops Q' lo.length listed a w
  | [], _, _, _, _, _, hB, h => ⟨by simpa [Region.seqB] using hB, h⟩
  | o :: lo, k, listed, a, w, hl, hB, h => by
    have h0 : ops[k]? = some o := by simpa using (hl 0).symm
    simp only [List.length_cons, Region.seqB, Bool.and_eq_true, decide_eq_true_eq] at hB
    refine ⟨fun h1 => (by rw [hB.1] at h1; cases h1), fun i hi => ?_⟩
    rw [hB.1] at hi
    have hik : i = k := by simpa using hi
    subst hik
    have hw : wpOpIn (Fence.wide.inRound l) n P ops Q' i (wpListIn (Fence.wide.inRound l) n P ops Q' lo) a w := by unfold wpOpIn; simp only [h0]; exact h
    exact wpOpIn_mono (fun a' w' h' => wpAnyInR_of_seq lo (i + 1) _ a' w' (fun j => by have := hl (j + 1); simpa [Nat.add_assoc, Nat.add_comm 1 j] using this) hB.2 h') hw

/-- All but the tail from m on only reads: the order of the text serves. -/
theorem wpInR_region_still_tail {id : Nat} {Q : Exit → Act → World → Prop} {a : Act} {w : World} {lo : List Oper} (m : Nat) (hm : P.follows .mixedOrders = true) (hnd : noDefer lo.toArray = true) (hB : Region.lexTailB .any lo.toArray m = true)
    (h : wpStill P lo.toArray w.drew (fun a' => wpListIn (Fence.wide.inRound l) n P lo.toArray Q (lo.drop m) a' w.drew) (lo.take m) a) : (Code.region id lo.toArray true).wpIn (Fence.wide.inRound l) n P Q a w := by
  simp only [Region.lexTailB, Bool.and_eq_true, decide_eq_true_eq] at hB
  obtain ⟨⟨⟨⟨hsel, hn⟩, hs⟩, hc⟩, hlex⟩ := hB
  have hn' : m < lo.length := by simpa using hn
  have htl : (lo.take m).length = m := by simp; omega
  have hdl : (lo.drop m).length = lo.toArray.size - m := by simp
  have inv0 : HeadInv .any lo.toArray m (Array.replicate lo.toArray.size false) :=
    ⟨by simp, fun j oj _ hl => (by rw [getD_replicate_false] at hl; cases hl), fun t _ ht => getD_in (by simpa using ht) (getD_replicate_false _ _)⟩
  have H := wpAnyL_lex (md := .any) (g := lo.toArray.size - m) hsel hs hc hn (lo.take m) 0 _ a (fun j hj => by
    have hj' : j < m := by rw [htl] at hj; exact hj
    simp [hj']) (by simpa using htl) inv0 (by rw [htl]; exact hlex) h
  refine wpIn_region_any hm ?_
  have := wpAnyInR_of_head (l := l) (n := n) (Q' := Q) (g := lo.toArray.size - m) hnd (fun listed a' hL => by
    have := wpAnyInR_of_seq (l := l) (n := n) (md := .any) (Q' := Q) (lo.drop m) m listed a' w.drew (fun j => by simp [List.getElem?_drop]) (by rw [hdl]; exact hL.1) hL.2
    rwa [hdl] at this) _ _ _ H
  rw [htl, show m + (lo.toArray.size - m) = lo.toArray.size by omega] at this
  exact this
end

section
variable {P : Program} {ops : Array Oper} {md : Region.Mode} {l n : Nat} {Q : Exit → Act → World → Prop}
theorem wpInR_of_wide {o : Oper} {a : Act} {w : World} {K : Act → World → Prop} (hnd : ∀ c, o.op ≠ .defer c) (h : o.wpIn Fence.wide n P a w K Q) : o.wpIn (Fence.wide.inRound l) n P a w K Q := by
  obtain ⟨_, h2⟩ := h
  refine ⟨fun _ _ => trivial, ?_⟩
  rw [Oper.semAt_eq _ _ _ hnd] at h2 ⊢
  generalize (execOp a.eval o).run P w = r at *
  cases r with
  | ok x w' => cases x <;> exact h2
  | halt x w' => cases x <;> exact h2
theorem wpOpInR_of_wide (hnd : noDefer ops = true) {i : Nat} {a : Act} {w : World} {K : Act → World → Prop} (h : wpOpIn Fence.wide n P ops Q i K a w) : wpOpIn (Fence.wide.inRound l) n P ops Q i K a w := by
  unfold wpOpIn at *
  split
  · rename_i ho; simp only [ho] at h; exact h
  · rename_i o ho
    simp only [ho] at h
    split
    · rename_i hw; simp only [hw, if_true] at h; exact wpInR_of_wide (noDefer_at hnd ho) h
    · rename_i hw; simp only [hw] at h; exact ⟨fun _ _ => trivial, h.2⟩
theorem wpAnyInR_of_wide (hnd : noDefer ops = true) : ∀ (fuel : Nat) (listed : Array Bool) (a : Act) (w : World), wpAnyIn Fence.wide n P md ops Q fuel listed a w → wpAnyIn (Fence.wide.inRound l) n P md ops Q fuel listed a w
  | 0, _, _, _, h => h
  | fuel + 1, _, _, _, h => ⟨h.1, fun i hi => wpOpInR_of_wide hnd (wpOpIn_mono (fun a w => wpAnyInR_of_wide hnd fuel _ a w) (h.2 i hi))⟩
/-- append as one step of a region that draws, inside the wide fence. -/
theorem step_append_runW {o : Oper} {a : Act} {w : World} {K : Act → World → Prop} {E : Prop} (hgd : o.guard = none) (s x : Operand) (t t2 : TypeId)
    (hop : o.op = Op.call { callee := Callee.builtin Builtin.append, args := #[s, x], argTypes := #[t, t2] }) (vs vx v' : Value) (w' : World) (hs : a.eval s = vs) (hx : a.eval x = vx)
    (hrun : (Builtin.append_ #[t, t2] o.type #[vs, vx]).run P w = .ok v' w') (h : K (a.put o.dst v') w') :
    if Region.wanted o (yielded ops a.tmps) = true then Oper.wpIn Fence.wide n P o a w K Q else E := by
  have hw : Region.wanted o (yielded ops a.tmps) = true := by simp [Region.wanted, hgd]
  rw [if_pos hw]
  refine ⟨fun _ _ => trivial, ?_⟩
  rw [Oper.semAt_eq _ _ _ (by rw [hop]; intro c hc; cases hc)]
  simp [execOp, hop, resolve, invoke, builtin, hs, hx, hrun, Result.andThen]
  exact h
end

/-! ### What a round of nodesOf keeps -/
structure Keep (n₀ : Nat) (W W' : World) : Prop where
  oth : KeepsOthers W W'
  spa : Spares n₀ itT W W'
theorem Keep.trans {n₀ : Nat} {A B C : World} (h : Keep n₀ A B) (k : Keep n₀ B C) : Keep n₀ A C := ⟨h.oth.trans k.oth, h.spa.trans k.spa⟩
theorem Keep.grown {n₀ : Nat} {W W' : World} {row : Option Nat} (hg : W.grownBy W' row) (hn : n₀ ≤ W.heap.size) (hr : ∀ r, row = some r → n₀ ≤ r ∧ ∃ cs t fr, W.heap[r]? = some (Obj.cells cs t fr) ∧ itT t = false) : Keep n₀ W W' :=
  ⟨KeepsOthers.of_grownBy hg (fun j o e ho => by obtain ⟨_, cs, t, fr, h1, _⟩ := hr j e; rw [ho] at h1; cases h1; rfl),
   Spares.grown hg hn (fun r e => ⟨(hr r e).1, fun cs t fr hcs => by obtain ⟨_, cs', t', fr', h1, h2⟩ := hr r e; rw [hcs] at h1; cases h1; exact h2⟩)⟩

/-- Inside a round. -/
structure Nst (w : World) (bx : Nat) (L M : Nat) (la : Option Addr) (lc : Nat) (ta : Option Addr) (tc : Nat) (ns : List Nod) (last : List Nat) (x : Nod) (W2 wx : World) : Prop where
  node : Blk wx bx 98 (cellsN x)
  b1 : Boxed wx (w.heap.size + 1) 70 (.slice la L lc)
  b2 : Boxed wx (w.heap.size + 1 + 1) 71 (.slice ta M tc)
  rn : OwnN wx w.heap.size la L lc ns
  rl : OwnI wx w.heap.size ta M tc last
  bel : Below w.heap.size w wx
  kp : Keep w.heap.size W2 wx
  hbx : w.heap.size + 3 ≤ bx
  ne : obk la ≠ some bx
theorem OwnN.row {w : World} {base n cap : Nat} {a : Option Addr} {l : List Nod} (h : OwnN w base a n cap l) : ∀ g, obk a = some g → base ≤ g ∧ ∃ cur, w.heap[g]? = some (.cells cur 98 (0, 0)) := by
  intro g e
  rcases h.2 with ⟨e1, _⟩ | ⟨k, c, cur, e1, hb, hg, _⟩
  · injection e1 with e1 _ _; rw [e1] at e; cases e
  · injection e1 with e1 _ _; rw [e1] at e; cases e; exact ⟨hb, cur, hg⟩
theorem OwnI.rowT {w : World} {base n cap : Nat} {a : Option Addr} {l : List Nat} (h : OwnI w base a n cap l) : ∀ g, obk a = some g → base ≤ g ∧ ∃ cur, w.heap[g]? = some (.cells cur 3 (0, 0)) := by
  intro g e
  rcases h.2 with ⟨e1, _⟩ | ⟨k, c, cur, e1, hb, hg, _⟩
  · injection e1 with e1 _ _; rw [e1] at e; cases e
  · injection e1 with e1 _ _; rw [e1] at e; cases e; exact ⟨hb, cur, hg⟩
theorem OwnI.getAt {w : World} {base n cap : Nat} {a : Option Addr} {l : List Nat} (h : OwnI w base a n cap l) (e : Nat) (he : e < n) : ∃ g, a = some ⟨g, 0, none⟩ ∧ n ≤ cap ∧ cap ≤ 9223372036854775807 ∧ w.cell? ⟨g, e, none⟩ = some (iv (l.getD e 0)) := by
  have hlen := h.len
  have hc : ∀ g, a = some ⟨g, 0, none⟩ → w.cell? ⟨g, e, none⟩ = (l.map iv)[e]? := fun g hv => by
    subst hv
    exact World.ownsRow.cellAt (show w.ownsRow base 3 1 (.slice (some ⟨g, 0, none⟩) n cap) n (l.map iv) from h) e (by omega)
  rcases h.2 with ⟨e1, e2⟩ | ⟨g, c, cur, e1, hb, hg, h1, h2, h3, h4⟩
  · omega
  · injection e1 with e1 _ e3
    subst e1 e3
    refine ⟨g, rfl, h1, by unfold maxLen at h2; omega, ?_⟩
    rw [hc g rfl, List.getElem?_map, List.getElem?_eq_getElem (by omega), List.getD_eq_getElem?_getD, List.getElem?_eq_getElem (by omega)]
    rfl
theorem ne_type {wx : World} {g b : Nat} {cs cs' : Array Value} {t t' : TypeId} {fr fr' : Nat × Nat} (h : wx.heap[g]? = some (.cells cs t fr)) (h' : wx.heap[b]? = some (.cells cs' t' fr')) (hne : t ≠ t') : g ≠ b := by
  intro e; subst e; rw [h] at h'; cases h'; exact hne rfl

section
variable {w W2 wx wy : World} {bx L M lc tc : Nat} {la ta : Option Addr} {ns : List Nod} {last : List Nat} {x : Nod}
theorem Nst.drew (h : Nst w bx L M la lc ta tc ns last x W2 wx) : Nst w bx L M la lc ta tc ns last x W2 wx.drew :=
  ⟨h.node, h.b1, h.b2, h.rn, h.rl, h.bel.drew, h.kp.trans (Keep.grown (grownBy_drew wx none) h.bel.size (fun r e => by cases e)), h.hbx, h.ne⟩
theorem Nst.alloc (h : Nst w bx L M la lc ta tc ns last x W2 wx) (o : Obj) : Nst w bx L M la lc ta tc ns last x W2 (wx.alloc o) :=
  ⟨h.node.alloc _, h.b1.alloc _, h.b2.alloc _, World.ownsRow.alloc h.rn _, World.ownsRow.alloc h.rl _, h.bel.alloc h.bel.size _, h.kp.trans (Keep.grown (World.grownBy_alloc wx o none) h.bel.size (fun r e => by cases e)), h.hbx, h.ne⟩
/-- The node's up is written. -/
theorem Nst.setUp (h : Nst w bx L M la lc ta tc ns last x W2 wx) (v : Int) : Nst w bx L M la lc ta tc ns last { x with up := v } W2 (wx.setCell ⟨bx, 5, none⟩ (.int .i64 v)) := by
  have hg := grownBy_set wx bx 5 (.int .i64 v)
  have hbx := h.hbx
  refine ⟨?_, h.b1.kept hg (by simp; omega), h.b2.kept hg (by simp; omega), World.ownsRow.kept h.rn hg (.inr (by rw [ownBlock_obk]; exact h.ne)), ?_, h.bel.setCell (p := ⟨bx, 5, none⟩) (by simp; omega) _, h.kp.trans (Keep.grown hg h.bel.size (fun r e => by cases e; exact ⟨by omega, _, _, _, h.node, by decide⟩)), hbx, h.ne⟩
  · have := Blk.set h.node 5 (.int .i64 v)
    exact this
  · refine OwnI.kept h.rl hg ?_
    cases hta : obk ta with
    | none => exact .inl rfl
    | some g =>
      obtain ⟨_, cur, hc⟩ := h.rl.rowT g hta
      exact .inr (fun e => by cases e; exact ne_type hc h.node (by decide) rfl)
/-- A node of the row gets its next one. -/
theorem Nst.setNext (h : Nst w bx L M la lc ta tc ns last x W2 wx) (i v : Nat) (hi : i < ns.length) : ∃ g, la = some ⟨g, 0, none⟩ ∧ ns.length ≤ lc ∧ lc ≤ 9223372036854775807 ∧ wx.frozen? ⟨g, i * 7 + 6, none⟩ = false ∧ (∃ u, wx.cell? ⟨g, i * 7 + 6, none⟩ = some u) ∧ Nst w bx L M la lc ta tc (setNext ns i v) last x W2 (wx.setCell ⟨g, i * 7 + 6, none⟩ (.int .i64 (v : Int))) := by
  have hlen := h.rn.len
  have hbx := h.hbx
  have hrow := h.rn
  rcases hrow.2 with ⟨e1, e2⟩ | ⟨g, c, cur, e1, hb, hg, h1, h2, h3, h4⟩
  · omega
  · injection e1 with e1 _ e3
    subst e1 e3
    have hx : ns[i]? = some (ns.getD i nod0) := getD_of hi
    have hgs := grownBy_set wx g (i * 7 + 6) (.int .i64 (v : Int))
    have hgne : g ≠ bx := fun e => h.ne (by rw [e]; rfl)
    have hnb1 : g ≠ w.heap.size + 1 := ne_type hg h.b1 (by decide)
    have hnb2 : g ≠ w.heap.size + 1 + 1 := ne_type hg h.b2 (by decide)
    have hcs : i * 7 + 6 < cur.size := by omega
    refine ⟨g, rfl, by omega, by unfold maxLen at h2; omega, by simp [World.frozen?, hg], ⟨_, by simp only [World.cell?, hg, Option.bind_some]; exact (Array.getElem?_eq_getElem hcs)⟩, ?_⟩
    refine ⟨Blk.setOther h.node (fun e => hgne e.symm) _, h.b1.kept hgs (by simp; omega), h.b2.kept hgs (by simp; omega), ?_, ?_, h.bel.setCell (p := ⟨g, i * 7 + 6, none⟩) hb _, h.kp.trans (Keep.grown hgs h.bel.size (fun r e => by cases e; exact ⟨hb, _, _, _, hg, by decide⟩)), hbx, h.ne⟩
    · unfold OwnN _root_.Go.Proofs.Ytkdfobnkebkpfaa.setNext
      rw [rowN_set ns i _ _ hx]
      refine ⟨by have := hrow.1; simpa using this, .inr ⟨g, lc, cur.setIfInBounds (i * 7 + 6) (.int .i64 (v : Int)), rfl, hb, ?_, h1, h2, by simpa using h3, ?_⟩⟩
      · have hlt := (Array.getElem?_eq_some_iff.1 hg).1
        have hk := (Array.getElem?_eq_some_iff.1 hg).2
        show (wx.heap.modify g _)[g]? = _
        rw [Array.getElem?_eq_getElem (by rw [Array.size_modify]; exact hlt), Array.getElem_modify_self, hk]
        try rfl
      · rw [Array.toList_setIfInBounds, List.take_set, h4]
    · refine OwnI.kept h.rl hgs ?_
      cases hta : obk ta with
      | none => exact .inl rfl
      | some g' =>
        obtain ⟨_, cur', hc⟩ := h.rl.rowT g' hta
        exact .inr (fun e => by cases e; exact ne_type hc hg (by decide) rfl)
theorem OwnI.takeN {w : World} {base n cap : Nat} {a : Option Addr} {l : List Nat} (h : OwnI w base a n cap l) (e : Nat) (he : e ≤ n) : OwnI w base a e cap (l.take e) := by
  have hlen := h.len
  refine ⟨by simp; omega, ?_⟩
  rcases h.2 with ⟨e1, e2⟩ | ⟨g, c, cur, e1, hb, hg, h1, h2, h3, h4⟩
  · injection e1 with e1 _ e3
    subst e1 e3
    obtain rfl : e = 0 := by omega
    exact .inl ⟨rfl, rfl⟩
  · injection e1 with e1 _ e3
    subst e1 e3
    refine .inr ⟨g, cap, cur, rfl, hb, hg, by omega, h2, h3, ?_⟩
    rw [Nat.mul_one] at h4 ⊢
    rw [List.map_take, ← h4, List.take_take, Nat.min_eq_left he]
theorem OwnI.slc {w : World} {base n cap : Nat} {a : Option Addr} {l : List Nat} (h : OwnI w base a n cap l) : n ≤ cap ∧ cap ≤ 9223372036854775807 ∧ (a = none ∧ cap = 0 ∨ ∃ g, a = some ⟨g, 0, none⟩) := by
  rcases h.2 with ⟨e1, e2⟩ | ⟨g, c, cur, e, hb, hg, h1, h2, h3, h4⟩
  · injection e1 with e1 e2 e3
    subst e1 e2 e3
    exact ⟨by omega, by omega, .inl ⟨rfl, rfl⟩⟩
  · injection e with e1 e2 e3
    subst e1 e3
    exact ⟨h1, by unfold maxLen at h2; omega, .inr ⟨g, rfl⟩⟩
set_option maxRecDepth 100000 in
/-- The last ones so far are cut, and one is put on. -/
theorem Nst.pushLast (h : Nst w bx L M la lc ta tc ns last x W2 wx) (e v : Nat) (he : e ≤ M) (hM : M ≤ 1099511627770) (ty : TypeId) :
    ∃ a' c' w', (Builtin.append_ #[71, 71] ty #[.slice ta e tc, .slice (some ⟨wx.heap.size, 0, none⟩) 1 1]).run Try.prog (wx.alloc (.cells #[.int .i64 (v : Int)] 3)) = .ok (.slice a' (e + 1) c') w' ∧
      w'.cell? ⟨w.heap.size + 1 + 1, 0, none⟩ = some (.slice ta M tc) ∧ w'.frozen? ⟨w.heap.size + 1 + 1, 0, none⟩ = false ∧ w.heap.size + 1 + 1 < w'.heap.size ∧
      Nst w bx L (e + 1) la lc a' c' ns (last.take e ++ [v]) x W2 (w'.setCell ⟨w.heap.size + 1 + 1, 0, none⟩ (.slice a' (e + 1) c')) := by
  obtain ⟨a', c', w', hrun, hown, hg, hnew⟩ := run_pushI wx ty v (iv v) rfl (h.rl.takeN e he) (by omega) h.bel.size
  rw [ownBlock_obk] at hg
  have hbx := h.hbx
  have hrow : ∀ r, obk ta = some r → w.heap.size ≤ r ∧ ∃ cur, wx.heap[r]? = some (.cells cur 3 (0, 0)) := fun r e => h.rl.rowT r e
  have n1 : some bx ≠ obk ta := fun e => by obtain ⟨_, cur, hc⟩ := hrow bx e.symm; exact ne_type hc h.node (by decide) rfl
  have n2 : some (w.heap.size + 1) ≠ obk ta := fun e => by obtain ⟨_, cur, hc⟩ := hrow _ e.symm; exact ne_type hc h.b1 (by decide) rfl
  have n3 : some (w.heap.size + 1 + 1) ≠ obk ta := fun e => by obtain ⟨_, cur, hc⟩ := hrow _ e.symm; exact ne_type hc h.b2 (by decide) rfl
  have n4 : obk la = none ∨ obk la ≠ obk ta := by
    cases hla : obk la with
    | none => exact .inl rfl
    | some g =>
      obtain ⟨_, cur, hc⟩ := h.rn.row g hla
      exact .inr fun e => by obtain ⟨_, cur', hc'⟩ := hrow g e.symm; exact ne_type hc hc' (by decide) rfl
  have k1 := h.node.kept hg n1
  have k2 := h.b1.kept hg (fun e => n2 e)
  have k3 := h.b2.kept hg (fun e => n3 e)
  have k4 : OwnN w' w.heap.size la L lc ns := World.ownsRow.kept h.rn hg (by rw [ownBlock_obk]; exact n4)
  have k5 := h.bel.grown hg h.bel.size (fun r e => (hrow r e).1)
  have k6 := h.kp.trans (Keep.grown hg h.bel.size (fun r e => by obtain ⟨h1, cur, hc⟩ := hrow r e; exact ⟨h1, _, _, _, hc, by decide⟩))
  have hgs := grownBy_set w' (w.heap.size + 1 + 1) 0 (.slice a' (e + 1) c')
  refine ⟨a', c', w', hrun, k3.cell, k3.frozen, (Array.getElem?_eq_some_iff.1 k3).1, ?_⟩
  refine ⟨Blk.setOther k1 (by omega) _, k2.kept hgs (by simp), k3.set _, ?_, ?_, k5.setCell (p := ⟨w.heap.size + 1 + 1, 0, none⟩) (by simp; omega) _, k6.trans (Keep.grown hgs k5.size (fun r e => by cases e; exact ⟨by omega, _, _, _, k3, by decide⟩)), hbx, h.ne⟩
  · refine World.ownsRow.kept k4 hgs ?_
    rw [ownBlock_obk]
    cases hla : obk la with
    | none => exact .inl rfl
    | some g => obtain ⟨_, cur, hc⟩ := k4.row g hla; exact .inr fun e => by cases e; exact ne_type hc k3 (by decide) rfl
  · refine OwnI.kept hown hgs ?_
    cases hla : obk a' with
    | none => exact .inl rfl
    | some g => obtain ⟨_, cur, hc⟩ := hown.rowT g hla; exact .inr fun e => by cases e; exact ne_type hc k3 (by decide) rfl
set_option maxRecDepth 100000 in
/-- The node is put onto the row. -/
theorem Nst.pushNode (h : Nst w bx L M la lc ta tc ns last x W2 wx) (hL : L ≤ 1099511627771) (ty : TypeId) :
    ∃ a' c' w', (Builtin.append_ #[70, 70] ty #[.slice la L lc, .slice (some ⟨wx.heap.size, 0, none⟩) 1 1]).run Try.prog (wx.alloc (.cells (cellsN x).toArray 98)) = .ok (.slice a' (L + 1) c') w' ∧
      w'.cell? ⟨w.heap.size + 1, 0, none⟩ = some (.slice la L lc) ∧ w'.frozen? ⟨w.heap.size + 1, 0, none⟩ = false ∧ w.heap.size + 1 < w'.heap.size ∧
      (let wz := w'.setCell ⟨w.heap.size + 1, 0, none⟩ (.slice a' (L + 1) c')
       Below w.heap.size w wz ∧ Keep w.heap.size W2 wz ∧ Boxed wz (w.heap.size + 1) 70 (.slice a' (L + 1) c') ∧ Boxed wz (w.heap.size + 1 + 1) 71 (.slice ta M tc) ∧ OwnN wz w.heap.size a' (L + 1) c' (ns ++ [x]) ∧ OwnI wz w.heap.size ta M tc last) := by
  obtain ⟨a', c', w', hrun, hown, hg⟩ := run_pushN wx ty x h.rn (by omega) h.bel.size
  rw [ownBlock_obk] at hg
  have hrow : ∀ r, obk la = some r → w.heap.size ≤ r ∧ ∃ cur, wx.heap[r]? = some (.cells cur 98 (0, 0)) := fun r e => h.rn.row r e
  have n2 : some (w.heap.size + 1) ≠ obk la := fun e => by obtain ⟨_, cur, hc⟩ := hrow _ e.symm; exact ne_type hc h.b1 (by decide) rfl
  have n3 : some (w.heap.size + 1 + 1) ≠ obk la := fun e => by obtain ⟨_, cur, hc⟩ := hrow _ e.symm; exact ne_type hc h.b2 (by decide) rfl
  have n4 : obk ta = none ∨ obk ta ≠ obk la := by
    cases hla : obk ta with
    | none => exact .inl rfl
    | some g =>
      obtain ⟨_, cur, hc⟩ := h.rl.rowT g hla
      exact .inr fun e => by obtain ⟨_, cur', hc'⟩ := hrow g e.symm; exact ne_type hc hc' (by decide) rfl
  have k2 := h.b1.kept hg (fun e => n2 e)
  have k3 := h.b2.kept hg (fun e => n3 e)
  have k4 := h.rl.kept hg n4
  have k5 := h.bel.grown hg h.bel.size (fun r e => (hrow r e).1)
  have k6 := h.kp.trans (Keep.grown hg h.bel.size (fun r e => by obtain ⟨h1, cur, hc⟩ := hrow r e; exact ⟨h1, _, _, _, hc, by decide⟩))
  have hgs := grownBy_set w' (w.heap.size + 1) 0 (.slice a' (L + 1) c')
  refine ⟨a', c', w', hrun, k2.cell, k2.frozen, (Array.getElem?_eq_some_iff.1 k2).1, k5.setCell (p := ⟨w.heap.size + 1, 0, none⟩) (by simp) _, k6.trans (Keep.grown hgs k5.size (fun r e => by cases e; exact ⟨by omega, _, _, _, k2, by decide⟩)), k2.set _, k3.kept hgs (by simp), ?_, ?_⟩
  · refine World.ownsRow.kept hown hgs ?_
    rw [ownBlock_obk]
    cases hla : obk a' with
    | none => exact .inl rfl
    | some g => obtain ⟨_, cur, hc⟩ := OwnN.row hown g hla; exact .inr fun e => by cases e; exact ne_type hc k2 (by decide) rfl
  · refine OwnI.kept k4 hgs ?_
    cases hla : obk ta with
    | none => exact .inl rfl
    | some g => obtain ⟨_, cur, hc⟩ := k4.rowT g hla; exact .inr fun e => by cases e; exact ne_type hc k2 (by decide) rfl
end
end Go.Proofs.Ytkdfobnkebkpfaa

/- The list of nodes is well formed, where every expression has just what its kind has. -/
namespace Go.Proofs.Ytkdfobnkebkpfaa
open Go.RowKit

theorem Fo.len_size (f : Fo) : f.len ≤ f.size := Fo.len_le f
theorem pre_next (f : Fo) : ∀ (d i : Nat) (x : Nd), (f.pre d)[i]? = some x → 0 < x.len → i + 1 < (f.pre d).length := by
  induction f with
  | nil => intro d i x h; simp [Fo.pre] at h
  | cons h kids rest ihk ihr =>
    intro d i x hx hl
    simp only [Fo.pre] at hx ⊢
    simp only [List.length_cons, List.length_append]
    cases i with
    | zero =>
      simp at hx
      subst hx
      have h1 := Fo.len_le kids
      have h2 := Fo.pre_length kids (d + 1)
      simp only at hl
      omega
    | succ i =>
      rw [List.getElem?_cons_succ] at hx
      by_cases hi : i < (kids.pre (d + 1)).length
      · rw [List.getElem?_append_left hi] at hx
        have := ihk (d + 1) i x hx hl
        omega
      · rw [List.getElem?_append_right (by omega)] at hx
        have := ihr d _ x hx hl
        omega

/-- Of nodes made so far: where next and up lead. -/
def LinkOk (s : List Nod × List Nat) : Prop := ∀ i x, s.1[i]? = some x → (x.next = -1 ∨ ∃ j : Nat, x.next = (j : Int) ∧ i < j ∧ j < s.1.length) ∧ (x.up = -1 ∨ ∃ j : Nat, x.up = (j : Int) ∧ j < s.1.length)
theorem setNext_at (ns : List Nod) (i v k : Nat) (x : Nod) (h : (setNext ns i v)[k]? = some x) : ∃ y, ns[k]? = some y ∧ x.k = y.k ∧ x.f = y.f ∧ x.up = y.up ∧ ((k = i ∧ x.next = (v : Int)) ∨ (k ≠ i ∧ x = y)) := by
  unfold setNext at h
  rw [List.getElem?_set] at h
  by_cases e : i = k
  · subst e
    rw [if_pos rfl] at h
    by_cases hi : i < ns.length
    · rw [if_pos hi] at h
      have hg := getD_of hi
      cases h
      exact ⟨_, hg, rfl, rfl, rfl, .inl ⟨rfl, rfl⟩⟩
    · rw [if_neg hi] at h; cases h
  · rw [if_neg e] at h
    exact ⟨x, h, rfl, rfl, rfl, .inr ⟨fun e2 => e e2.symm, rfl⟩⟩
theorem ahead_at (s : List Nod × List Nat) (d k : Nat) (x : Nod) (h : (ahead s d)[k]? = some x) : ∃ y, s.1[k]? = some y ∧ x.k = y.k ∧ x.f = y.f ∧ x.up = y.up ∧ (x.next = y.next ∨ (x.next = (s.1.length : Int) ∧ k < s.1.length)) := by
  unfold ahead at h
  split at h
  · obtain ⟨y, h1, h2, h3, h4, h5⟩ := setNext_at _ _ _ _ _ h
    refine ⟨y, h1, h2, h3, h4, ?_⟩
    rcases h5 with ⟨_, h5⟩ | ⟨_, h5⟩
    · exact .inr ⟨h5, (List.getElem?_eq_some_iff.1 h1).1⟩
    · exact .inl (by rw [h5])
  · exact ⟨x, h, rfl, rfl, rfl, .inl rfl⟩
theorem LinkOk.step {s : List Nod × List Nat} (hl : LastOk s) (h : LinkOk s) (y : Nd) : LinkOk (nodStep s y) := by
  intro i x hx
  have hlen := nodStep_length s y
  simp only [nodStep] at hx
  rw [hlen]
  by_cases hi : i < s.1.length
  · rw [List.getElem?_append_left (by rw [ahead_length]; exact hi)] at hx
    obtain ⟨z, h1, -, -, h4, h5⟩ := ahead_at _ _ _ _ hx
    obtain ⟨k1, k2⟩ := h i z h1
    refine ⟨?_, ?_⟩
    · rcases h5 with h5 | ⟨h5, _⟩
      · rcases k1 with k1 | ⟨j, k1, k3, k4⟩
        · exact .inl (h5.trans k1)
        · exact .inr ⟨j, h5.trans k1, k3, by omega⟩
      · exact .inr ⟨s.1.length, h5, hi, by omega⟩
    · rcases k2 with k2 | ⟨j, k2, k3⟩
      · exact .inl (h4.trans k2)
      · exact .inr ⟨j, h4.trans k2, by omega⟩
  · rw [List.getElem?_append_right (by rw [ahead_length]; omega), ahead_length] at hx
    have : i - s.1.length = 0 := by
      have := (List.getElem?_eq_some_iff.1 hx).1
      simp at this
      omega
    rw [this] at hx
    simp at hx
    subst hx
    refine ⟨.inl rfl, ?_⟩
    simp only [upN]
    split
    · refine .inr ⟨_, rfl, ?_⟩
      rw [List.getD_eq_getElem?_getD]
      cases hg : s.2[y.d - 2]? with
      | none => simp
      | some v => have := hl.2 v (List.mem_of_getElem? hg); simp; omega
    · exact .inl rfl
theorem fold_link (l : List Nd) : ∀ s, LastOk s → LinkOk s → LinkOk (l.foldl nodStep s) := by
  induction l with
  | nil => intro s _ h; exact h
  | cons x l ih => intro s h1 h2; exact ih _ (h1.step x) (h2.step h1 x)
theorem nodsP_link (l : List Nd) : LinkOk (nodsP l) := fold_link l _ ⟨Nat.le_refl _, fun v hv => by simp at hv⟩ (fun i x h => by simp at h)
/-- Kinds and sets are the expressions'. -/
def KfOk (l : List Nd) (s : List Nod × List Nat) : Prop := s.1.length = l.length ∧ ∀ (i : Nat) (x : Nod), s.1[i]? = some x → ∃ y : Nd, l[i]? = some y ∧ x.k = y.h.k ∧ x.f = fS y.h.set
theorem KfOk.step {l : List Nd} {s : List Nod × List Nat} (h : KfOk l s) (y : Nd) : KfOk (l ++ [y]) (nodStep s y) := by
  obtain ⟨h1, h2⟩ := h
  refine ⟨by rw [nodStep_length]; simp [h1], ?_⟩
  intro i x hx
  simp only [nodStep] at hx
  by_cases hi : i < s.1.length
  · rw [List.getElem?_append_left (by rw [ahead_length]; exact hi)] at hx
    obtain ⟨z, k1, k2, k3, -, -⟩ := ahead_at _ _ _ _ hx
    obtain ⟨u, e1, e2, e3⟩ := h2 i z k1
    exact ⟨u, by rw [List.getElem?_append_left (by omega)]; exact e1, k2.trans e2, k3.trans e3⟩
  · rw [List.getElem?_append_right (by rw [ahead_length]; omega), ahead_length] at hx
    have h0 : i - s.1.length = 0 := by
      have := (List.getElem?_eq_some_iff.1 hx).1
      simp at this
      omega
    rw [h0] at hx
    simp at hx
    subst hx
    refine ⟨y, ?_, rfl, rfl⟩
    rw [List.getElem?_append_right (by omega), show i - l.length = 0 by omega]
    rfl
theorem fold_kf (l : List Nd) : ∀ (l0 : List Nd) s, KfOk l0 s → KfOk (l0 ++ l) (l.foldl nodStep s) := by
  induction l with
  | nil => intro l0 s h; simpa using h
  | cons x l ih => intro l0 s h; have := ih _ _ (h.step x); simpa using this
theorem nodsP_kf (l : List Nd) : KfOk l (nodsP l) := by
  have := fold_kf l [] ([], []) ⟨rfl, fun i x h => by simp at h⟩
  rw [List.nil_append] at this
  exact this
theorem plain_kids {h : Hd} {n : Nat} (hp : plainB h n = true) : (h.k = 1 ∨ h.k = 2) ∨ 0 < n := by
  unfold plainB at hp
  by_cases h1 : h.k = 1
  · exact .inl (.inl h1)
  by_cases h2 : h.k = 2
  · exact .inl (.inr h2)
  right
  rw [if_neg (by simpa using h1), if_neg (by simpa using h2)] at hp
  split at hp
  · simp at hp; omega
  · split at hp
    · simp at hp; omega
    · cases hp
theorem nodsP_wf (f : Fo) (hp : (f.pre 1).all (fun x => plainB x.h x.len) = true) : NodWf (nodsP (f.pre 1)).1 := by
  intro i x hx
  obtain ⟨hlen, hk⟩ := nodsP_kf (f.pre 1)
  obtain ⟨y, e1, e2, e3⟩ := hk i x hx
  obtain ⟨l1, l2⟩ := nodsP_link (f.pre 1) i x hx
  refine ⟨?_, l1, l2⟩
  have := List.all_eq_true.1 hp y (List.mem_of_getElem? e1)
  rcases plain_kids this with h | h
  · rw [e2]; exact .inl h
  · rw [hlen]; exact .inr (pre_next f 1 i y e1 h)
end Go.Proofs.Ytkdfobnkebkpfaa
