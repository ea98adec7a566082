/- Texts joined: Bytes Law Mem Append Xa Xz Ia Ib Ba Bb Xe Ic Ih Ii Item Range Xf Xg Xb Shelf Xc Xd Xh Xi All Xj Xk Xl Xn Xq Xr Xs Xt Xu Xv. -/
import Derived.WalkKit
import Derived.WalkSmall
import Derived.Lib.Hide
import Derived.Test.YtldmgifphkpdlaaRows
import Derived.ProofKit
import Derived.OpenShut
import Derived.JoinedCond
import Derived.RangeFuncBox
import Derived.OwnWalk
import Derived.Laws.CopyOwn
import Derived.Deep.QuietTactic
import Derived.BigQuiet
import Derived.StillTailTactics
import Derived.Deep.RegionWith
import Derived.Lib.AppendStr
import Derived.Below
import Derived.Maps.Own
import Derived.Maps.OwnOps
import Derived.Maps.OwnSet
import Derived.Maps.Views
import Derived.StringKeys
import Derived.BigRegion
import Derived.Maps.AppendAt
import Derived.Deep.LoopGhost
import Derived.RangeFuncNested
import Derived.RangeFuncBound
import Derived.RangeFuncCalls
import Derived.RangeFuncLeaves
import Derived.Shelf.Abstract
import Derived.Shelf.Small.Strs
import Derived.Shelf.Strings.Search1
import Derived.Test.YtldmgifphkpdlaaProg
import Derived.OwnWalkIn
import Derived.TacticsInMore
import Derived.LoopNIn
import Derived.LoopIn
import Derived.Sort.LoopGhostIn
import Derived.Deep.RegionLaw
import Derived.Outline
import Derived.WalkLawsBesides
import Derived.WalkSpells
import Derived.Deep.RegionHeld3
set_option linter.unusedVariables false
set_option linter.unusedSimpArgs false
namespace Go.Proofs.Ytldmgifphkpdlaa
open Go.RowKit
end Go.Proofs.Ytldmgifphkpdlaa
namespace Go.Proofs.Ytldmgifphkpdlaa
open Go.ChangeShapes Go.WideShapes Go.ChangeAt Go.RowKit
theorem Try.own : ownKnob Try.prog.godebug = none := by kernel_rfl
theorem Try.laidOut : laidOutB Try.prog = true := by kernel_rfl
theorem trodAll_stays {H : Type} {enc : TypeId × Value → H} {P : Program} (hl : laidOutB P = true) {W W' : World} {sp : Nat → Bool} : ∀ (ts : List TypeId) (vs : List Value) (ds : List (DataW H)) (ps : List MemPlace),
 (∀ t ∈ ts, P.readableRec t = true ∧ t < P.types.size) → DataW.TrodAll enc P W 0 (fun _ => true) true ts vs ds ps → (∀ p ∈ ps, W.sameAt W' p) → (∀ p ∈ ps, sp p.block = true) → DataW.TrodAll enc P W' 0 sp true ts vs ds ps
 | [], _, _, _, _, h, _, _ => by
  obtain ⟨rfl, rfl, rfl⟩ := trodAll_nil h
  exact trodAll_mk0
 | t :: ts, _, _, _, hr, h, hs, hp => by
  obtain ⟨v, vs1, d, ds1, a, b, rfl, rfl, rfl, h1, h2⟩ := trodAll_cons h
  have ht := hr t (List.mem_cons_self ..)
  exact trodAll_cons_mk (WideElems.Trod_stays hl ht.1 ht.2 h1 (fun x hx => hs x (List.mem_append_left _ hx)) (fun x hx => hp x (List.mem_append_left _ hx)))
   (trodAll_stays hl ts vs1 ds1 b (fun t h => hr t (List.mem_cons_of_mem _ h)) h2 (fun x hx => hs x (List.mem_append_right _ hx)) (fun x hx => hp x (List.mem_append_right _ hx)))
set_option maxRecDepth 100000 in
theorem law_post {H : Type} {enc : TypeId × Value → H} {f : Func} {s : ChangeSpec} {apart fresh handsOn again : Bool} {W W' : World} {args : Array Value} {ds gs : List (DataW H)} {before : List MemPlace}
 (hW : DataW.Whole enc Try.prog f.params.toList s.vars apart W args.toList ds gs before) (hv : s.vars = []) (hs : s.fn H ds = { results := [.lit (.bool true)], args := ds }) (hres : f.resultTypes = #[4])
 (hp : ∀ t ∈ f.params.toList, Try.prog.readableRec t = true ∧ t < Try.prog.types.size) (hb : Below W.heap.size W W') :
 s.post enc Try.prog f apart fresh handsOn again W args (.bool true) W' := by
 have hlt := hW.lt
 have hW' := hW
 obtain ⟨p, q, hA, hV, rfl, hfz, hnd⟩ := hW
 rw [hv] at hV
 obtain ⟨rfl, rfl⟩ := trodVars_none hV
 have hfn : s.fn H (ds ++ []) = { results := [.lit (.bool true)], args := ds } := by rw [List.append_nil]; exact hs
 have hargs : ∀ sp : Nat → Bool, (∀ x ∈ p, sp x.block = true) → DataW.TrodAll enc Try.prog W' 0 sp true f.params.toList args.toList ds p := fun sp hsp =>
  trodAll_stays Try.laidOut _ _ _ _ hp hA (fun x hx => hb.same (hlt x (List.mem_append_left _ hx))) hsp
 have hrs : ∀ (b : Nat) (sp : Nat → Bool) (hd : Bool), DataW.TrodAll enc Try.prog W' b sp hd f.resultTypes.toList ((Value.bool true).resultList f.resultTypes.size) [.lit (.bool true)] [] := fun b sp hd => by
  rw [hres]; exact trodAll_cons_mk (shut_bool Try.underlying4 true) trodAll_mk0
 refine ⟨ds, [], p ++ [], [], p, [], hW', ?_, ?_, ?_, hb.frame _, fun _ => ?_⟩
 ·rw [hfn]; exact hrs _ _ _
 ·rw [hfn]; exact hargs _ (fun x hx => by simpa using hlt x (List.mem_append_left _ hx))
 ·rw [hv, hfn]; exact rfl
 ·refine ⟨ok_one hres rfl (okWide_bool_mk Try.underlying4 true), [.lit (.bool true)] ++ ds, [], ([] ++ p) ++ [], ⟨[] ++ p, [], ?_, ?_, rfl, ?_, ?_⟩, ?_⟩
  ·exact trodAll_append (hargs _ (fun _ _ => rfl)) (hrs _ _ _)
  ·rw [hv]; exact rfl
  ·intro b off hx
   have hx' : MemPlace.cell b off ∈ p ++ [] := by simpa using hx
   rw [hb.frozen (p := ⟨b, off, none⟩) (hlt _ hx')]
   exact hfz b off hx'
  ·intro ha
   simpa using hnd ha
  ·intro x hx _
   simpa using hx
end Go.Proofs.Ytldmgifphkpdlaa
namespace Go.Proofs.Ytldmgifphkpdlaa
open Go.RowKit
/-- Block b holds just these cells, none frozen. -/
def Blk (w : World) (b : Nat) (e : TypeId) (cs : List Value) : Prop := w.heap[b]? = some (.cells cs.toArray e (0, 0))
section
variable {w w' : World} {b e : Nat} {cs : List Value}
theorem Blk.lt (h : Blk w b e cs) : b < w.heap.size := (Array.getElem?_eq_some_iff.1 h).1
theorem Blk.cell (h : Blk w b e cs) (j : Nat) : w.cell? ⟨b, j, none⟩ = cs[j]? := by
 simp [World.cell?, show w.heap[b]? = _ from h]
theorem Blk.frozen (h : Blk w b e cs) (j : Nat) : w.frozen? ⟨b, j, none⟩ = false := by
 simp [World.frozen?, show w.heap[b]? = _ from h]
theorem Blk.kept {row : Option Nat} (h : Blk w b e cs) (hg : w.grownBy w' row) (hne : some b ≠ row) : Blk w' b e cs := (hg.block b h.lt hne).trans h
theorem Blk.below {B : Nat} (h : Blk w b e cs) (hb : Below B w w') (hlt : b < B) : Blk w' b e cs := (hb.block b hlt).trans h
theorem Blk.alloc (h : Blk w b e cs) (o : Obj) : Blk (w.alloc o) b e cs := h.kept (World.grownBy_alloc w o none) (by simp)
theorem Blk.new (w : World) (e : TypeId) (cs : Array Value) : Blk (w.alloc (.cells cs e)) w.heap.size e cs.toList := by
 have := World.alloc_heap_new w (.cells cs e)
 simpa [Blk] using this
theorem Blk.set (h : Blk w b e cs) (j : Nat) (v : Value) : Blk (w.setCell ⟨b, j, none⟩ v) b e (cs.set j v) := by
 obtain ⟨hlt, hk⟩ := Array.getElem?_eq_some_iff.1 h
 show (w.heap.modify b _)[b]? = _
 rw [Array.getElem?_eq_getElem (by rw [Array.size_modify]; exact hlt), Array.getElem_modify_self, hk]
 simp
theorem Blk.setOther {b' j : Nat} (h : Blk w b e cs) (hne : b ≠ b') (v : Value) : Blk (w.setCell ⟨b', j, none⟩ v) b e cs := by
 show (w.setCell ⟨b', j, none⟩ v).heap[b]? = _
 rw [Below.heap_setCell _ _ _ _ (by simpa using hne)]; exact h
end
theorem grownBy_set (w : World) (b j : Nat) (v : Value) : w.grownBy (w.setCell ⟨b, j, none⟩ v) (some b) :=
 ⟨rfl, rfl, rfl, (KeepsWalks.setCell w _ v).size, fun k _ hk => Below.heap_setCell _ _ _ k (fun e => hk (by rw [e]))⟩
/-- Two steps: the second may write the row of the first, or what the first has laid. -/
theorem grownBy_trans {a b c : World} {r s : Option Nat} (h : a.grownBy b r) (k : b.grownBy c s) (hs : ∀ i, s = some i → r = some i ∨ a.heap.size ≤ i) : a.grownBy c r :=
 ⟨k.os.trans h.os, k.tape.trans h.tape, k.output.trans h.output, Nat.le_trans h.size k.size, fun i hi hr =>
  (k.block i (Nat.lt_of_lt_of_le hi h.size) (fun e => by rcases hs i e.symm with h1 | h1; exact hr h1.symm; omega)).trans (h.block i hi hr)⟩
theorem grownBy_below {a b : World} {r : Option Nat} (h : a.grownBy b r) (hr : ∀ i, r = some i → a.heap.size ≤ i) : Below a.heap.size a b :=
 ⟨h.os, h.tape, h.output, h.size, fun k hk => h.block k hk (fun e => by have := hr k e.symm; omega)⟩
theorem below_grownBy {a b : World} (h : Below a.heap.size a b) (r : Option Nat) : a.grownBy b r := ⟨h.os, h.tape, h.output, h.size, fun k hk _ => h.block k hk⟩
theorem grownBy_none {a b : World} (h : a.grownBy b none) (r : Option Nat) : a.grownBy b r := below_grownBy (grownBy_below h (fun i e => by cases e)) r
theorem grownBy_drew (w : World) (r : Option Nat) : w.grownBy w.drew r := ⟨rfl, rfl, rfl, Nat.le_refl _, fun _ _ _ => rfl⟩
/-- What stands in a row when its cells from off on are overwritten. -/
def over (cs : List Value) (off : Nat) (new : List Value) : List Value := cs.take off ++ new ++ cs.drop (off + new.length)
end Go.Proofs.Ytldmgifphkpdlaa
namespace Go.Proofs.Ytldmgifphkpdlaa
open Go.RowKit
theorem slice_of_own {w : World} {base e size n : Nat} {v : Value} {xs : List Value} (h : w.ownsRow base e size v n xs) : ∃ a cap, v = .slice a n cap := by
 rcases h.2 with ⟨rfl, rfl⟩ | ⟨g, cap, _, rfl, _⟩
 ·exact ⟨_, _, rfl⟩
 ·exact ⟨_, _, rfl⟩
/-- An append whose run is known. -/
theorem wpList_append_run {P : Program} {w : World} {ops : Array Oper} {rest : List Oper} {o : Oper} {a : Act} {Q : Exit → Act → World → Prop} (hg : o.guard = none) (s x : Operand) (t t2 : TypeId)
 (hop : o.op = Op.call { callee := Callee.builtin Builtin.append, args := #[s, x], argTypes := #[t, t2] }) (vs vx v' : Value) (w' : World) (hs : a.eval s = vs) (hx : a.eval x = vx)
 (hrun : (Builtin.append_ #[t, t2] o.type #[vs, vx]).run P w = .ok v' w') (h : wpList P ops Q rest (a.put o.dst v') w') : wpList P ops Q (o :: rest) a w := by
 refine wpList_plain hg fun K hK' => ?_
 unfold Oper.wp
 simp [execOp, hop, resolve, invoke, builtin, hs, hx, hrun, Result.andThen]
 exact hK' _ _ h
end Go.Proofs.Ytldmgifphkpdlaa
namespace Go.Proofs.Ytldmgifphkpdlaa
open Go.RowKit
def letB (c : UInt8) : Bool := (decide (97 ≤ c.toNat) && decide (c.toNat ≤ 122)) || (decide (65 ≤ c.toNat) && decide (c.toNat ≤ 90)) || decide (c.toNat = 95)
def digB (c : UInt8) : Bool := decide (48 ≤ c.toNat) && decide (c.toNat ≤ 57)
/-- Whether a text is a name. -/
def nameL : List UInt8 → Bool
 | [] => false
 | c :: r => decide (r.length < 32) && !digB c && (c :: r).all (fun d => letB d || digB d)
def nameB (s : ByteArray) : Bool := nameL s.data.toList
/-- A row of values of one cell. -/
structure Vs (w : World) (a : Option Addr) (cap : Nat) (l : List Value) : Prop where
 le : l.length ≤ cap
 max : cap ≤ 9223372036854775807
 nil_ : a = none → cap = 0
 at_ : ∀ i, i < l.length → ∃ b off, a = some ⟨b, off, none⟩
 cell : ∀ b off, a = some ⟨b, off, none⟩ → ∀ i, (h : i < l.length) → w.cell? ⟨b, off + i, none⟩ = some l[i]
theorem cell_up {w w' : World} (hb : Below w.heap.size w w') {b off : Nat} {v : Value} (h : w.cell? ⟨b, off, none⟩ = some v) : w'.cell? ⟨b, off, none⟩ = some v := (hb.cell (p := ⟨b, off, none⟩) (World.block_lt_of_cell? w _ h)).trans h
theorem Vs.grown {w w' : World} {a : Option Addr} {cap : Nat} {l : List Value} (h : Vs w a cap l) (hb : Below w.heap.size w w') : Vs w' a cap l :=
 ⟨h.le, h.max, h.nil_, h.at_, fun b off e i hi => cell_up hb (h.cell b off e i hi)⟩
theorem Vs.nil (w : World) : Vs w none 0 [] := ⟨by simp, by omega, fun _ => rfl, fun i h => by simp at h, fun b off e => by cases e⟩
/-- A list of names. -/
abbrev Nms (w : World) (a : Option Addr) (cap : Nat) (l : List ByteArray) : Prop := Vs w a cap (l.map Value.string)
/-- An alternative: its names, and where they lie. -/
structure AltD where
 l : List ByteArray
 a : Option Addr
 c : Nat
abbrev AltD.v (d : AltD) : Value := .slice d.a d.l.length d.c
structure Alts (w : World) (a : Option Addr) (cap : Nat) (ds : List AltD) : Prop where
 row : Vs w a cap (ds.map AltD.v)
 nms : ∀ d ∈ ds, Nms w d.a d.c d.l
theorem Alts.grown {w w' : World} {a : Option Addr} {cap : Nat} {l : List AltD} (h : Alts w a cap l) (hb : Below w.heap.size w w') : Alts w' a cap l := ⟨h.row.grown hb, fun d hd => (h.nms d hd).grown hb⟩
theorem Alts.nil (w : World) : Alts w none 0 [] := ⟨Vs.nil w, fun d h => by cases h⟩
/-- A rule: its name, its alternatives, and where they lie. -/
structure RlD where
 n : ByteArray
 ds : List AltD
 a : Option Addr
 c : Nat
def RlD.cells (r : RlD) : List Value := [.string r.n, .slice r.a r.ds.length r.c]
/-- Rules, each of two cells. -/
structure Rls (w : World) (a : Option Addr) (cap : Nat) (rs : List RlD) : Prop where
 le : rs.length ≤ cap
 max : cap ≤ 9223372036854775807
 nil_ : a = none → cap = 0
 at_ : ∀ i, i < rs.length → ∃ b off, a = some ⟨b, off, none⟩
 cell : ∀ b off, a = some ⟨b, off, none⟩ → ∀ i, (h : i < rs.length) → w.cell? ⟨b, off + i * 2, none⟩ = some (.string rs[i].n) ∧ w.cell? ⟨b, off + i * 2 + 1, none⟩ = some (.slice rs[i].a rs[i].ds.length rs[i].c)
 alts : ∀ r ∈ rs, Alts w r.a r.c r.ds
theorem Rls.grown {w w' : World} {a : Option Addr} {cap : Nat} {rs : List RlD} (h : Rls w a cap rs) (hb : Below w.heap.size w w') : Rls w' a cap rs :=
 ⟨h.le, h.max, h.nil_, h.at_, fun b off e i hi => ⟨cell_up hb (h.cell b off e i hi).1, cell_up hb (h.cell b off e i hi).2⟩, fun r hr => (h.alts r hr).grown hb⟩
theorem Rls.nil (w : World) : Rls w none 0 [] := ⟨by simp, by omega, fun _ => rfl, fun i h => by simp at h, fun b off e => (by cases e), fun r h => (by cases h)⟩
/-- A rule, without where it lies. -/
abbrev Rl := ByteArray × List (List ByteArray)
def RlD.p (r : RlD) : Rl := (r.n, r.ds.map AltD.l)
def grP (rs : List RlD) : List Rl := rs.map RlD.p
end Go.Proofs.Ytldmgifphkpdlaa
namespace Go.Proofs.Ytldmgifphkpdlaa
open Go.ChangeShapes Go.WideShapes Go.ChangeAt Go.RowKit
theorem str_cells : Try.prog.cellsOf 9 = 1 := by kernel_rfl
theorem strs_cells : Try.prog.cellsOf 22 = 1 := by kernel_rfl
theorem row_of {α : Type} {P : Nat → α → Prop} : ∀ n, (∀ i, i < n → ∃ s, P i s) → ∃ l : List α, l.length = n ∧ ∀ i (h : i < l.length), P i l[i] := by
 intro n
 induction n with
 | zero => intro _; exact ⟨[], rfl, fun i h => by simp at h⟩
 | succ n ih =>
  intro h
  obtain ⟨l, h1, h2⟩ := ih (fun i hi => h i (by omega))
  obtain ⟨s, hs⟩ := h n (by omega)
  refine ⟨l ++ [s], by simp [h1], fun i hi => ?_⟩
  by_cases hi2 : i < l.length
  ·rw [List.getElem_append_left hi2]; exact h2 i hi2
  ·have : i = l.length := by simp at hi; omega
   subst this
   rw [List.getElem_append_right (Nat.le_refl _)]
   simp only [Nat.sub_self, List.getElem_cons_zero]
   rw [h1]; exact hs
end Go.Proofs.Ytldmgifphkpdlaa
namespace Go.Proofs.Ytldmgifphkpdlaa
/-- A way: what it makes, and what it needs. -/
structure Wy (α : Type) where
 n : α
 l : List α
/-- What the ways make. -/
inductive Mk {α : Type} (ws : List (Wy α)) : α → Prop
 | by_ {w : Wy α} : w ∈ ws → (∀ x ∈ w.l, Mk ws x) → Mk ws w.n
theorem Mk.mono {α : Type} {ws vs : List (Wy α)} (h : ∀ w ∈ ws, w ∈ vs) {x : α} (k : Mk ws x) : Mk vs x := by
 induction k with
 | by_ h1 _ ih => exact .by_ (h _ h1) ih
/-- A way as it lies in memory: what it makes, what it still needs, and where that lies. -/
structure WyD (α : Type) where
 n : α
 l : List α
 a : Option Addr
 c : Nat
/-- This is what is left of a way that was taken: all ahead of it is made. -/
def Of {α : Type} (T : List (Wy α)) (M : α → Bool) (w : WyD α) : Prop := ∃ pre, (⟨w.n, pre ++ w.l⟩ : Wy α) ∈ T ∧ ∀ x ∈ pre, M x = true
/-- What is made (M), what waits, and for what (P), what lies open (O), of the ways that were taken (T). -/
structure MkInv {α : Type} (T : List (Wy α)) (M : α → Bool) (P : List (α × WyD α)) (O : List (WyD α)) : Prop where
 sound : ∀ x, M x = true → Mk T x
 wait : ∀ p ∈ P, Of T M p.2 ∧ p.2.l.head? = some p.1 ∧ M p.1 = false
 opened : ∀ w ∈ O, Of T M w
 all : ∀ t ∈ T, M t.n = true ∨ (∃ p ∈ P, p.2.n = t.n ∧ ∃ pre, t.l = pre ++ p.2.l) ∨ (∃ w ∈ O, w.n = t.n ∧ ∃ pre, t.l = pre ++ w.l)
 few : P.length + O.length ≤ T.length
theorem MkInv.nil {α : Type} : MkInv ([] : List (Wy α)) (fun _ => false) [] [] :=
 ⟨fun x h => (by cases h), fun p h => (by cases h), fun w h => (by cases h), fun t h => (by cases h), Nat.le_refl _⟩
theorem Of.mono {α : Type} {T V : List (Wy α)} {M N : α → Bool} {w : WyD α} (h : Of T M w) (h1 : ∀ t ∈ T, t ∈ V) (h2 : ∀ x, M x = true → N x = true) : Of V N w := by
 obtain ⟨pre, h3, h4⟩ := h
 exact ⟨pre, h1 _ h3, fun x hx => h2 x (h4 x hx)⟩
/-- One way more is taken. -/
theorem MkInv.take {α : Type} {T : List (Wy α)} {M : α → Bool} {P : List (α × WyD α)} (h : MkInv T M P []) (w : WyD α) : MkInv (T ++ [⟨w.n, w.l⟩]) M P [w] where
 sound := fun x hx => (h.sound x hx).mono (fun t ht => List.mem_append_left _ ht)
 wait := fun p hp => ⟨(h.wait p hp).1.mono (fun t ht => List.mem_append_left _ ht) (fun _ h => h), (h.wait p hp).2⟩
 opened := fun v hv => by
  rw [List.mem_singleton] at hv
  subst hv
  exact ⟨[], List.mem_append_right _ (by simp), fun x hx => by cases hx⟩
 all := fun t ht => by
  rcases List.mem_append.1 ht with ht | ht
  ·rcases h.all t ht with h1 | h1 | ⟨v, hv, _⟩
   ·exact .inl h1
   ·exact .inr (.inl h1)
   ·cases hv
  ·rw [List.mem_singleton] at ht
   subst ht
   exact .inr (.inr ⟨w, by simp, rfl, [], rfl⟩)
 few := by have := h.few; simp at this ⊢; omega
/-- The first thing that the last open way needs is made: it needs it no longer. -/
theorem MkInv.skip {α : Type} {T : List (Wy α)} {M : α → Bool} {P : List (α × WyD α)} {O : List (WyD α)} {n x : α} {l : List α} {a b : Option Addr} {c d : Nat} (h : MkInv T M P (O ++ [⟨n, x :: l, a, c⟩])) (hx : M x = true) : MkInv T M P (O ++ [⟨n, l, b, d⟩]) where
 sound := h.sound
 wait := h.wait
 opened := fun v hv => by
  rcases List.mem_append.1 hv with hv | hv
  ·exact h.opened v (List.mem_append_left _ hv)
  ·rw [List.mem_singleton] at hv
   subst hv
   obtain ⟨pre, h1, h2⟩ := h.opened ⟨n, x :: l, a, c⟩ (by simp)
   refine ⟨pre ++ [x], by simpa using h1, fun y hy => ?_⟩
   rcases List.mem_append.1 hy with hy | hy
   ·exact h2 y hy
   ·rw [List.mem_singleton] at hy
    rw [hy]; exact hx
 all := fun t ht => by
  rcases h.all t ht with h1 | h1 | ⟨v, hv, h1, pre, h2⟩
  ·exact .inl h1
  ·exact .inr (.inl h1)
  ·rcases List.mem_append.1 hv with hv | hv
   ·exact .inr (.inr ⟨v, List.mem_append_left _ hv, h1, pre, h2⟩)
   ·rw [List.mem_singleton] at hv
    subst hv
    exact .inr (.inr ⟨⟨n, l, b, d⟩, by simp, h1, pre ++ [x], by simpa using h2⟩)
 few := by have := h.few; simp at this ⊢; omega
/-- The first thing that the last open way needs is not made: it waits. -/
theorem MkInv.waits {α : Type} {T : List (Wy α)} {M : α → Bool} {P : List (α × WyD α)} {O : List (WyD α)} {w : WyD α} {x : α} (h : MkInv T M P (O ++ [w])) (hl : w.l.head? = some x) (hx : M x = false) : MkInv T M (P ++ [(x, w)]) O where
 sound := h.sound
 wait := fun p hp => by
  rcases List.mem_append.1 hp with hp | hp
  ·exact h.wait p hp
  ·rw [List.mem_singleton] at hp
   subst hp
   exact ⟨h.opened w (by simp), hl, hx⟩
 opened := fun v hv => h.opened v (List.mem_append_left _ hv)
 all := fun t ht => by
  rcases h.all t ht with h1 | ⟨p, hp, h1⟩ | ⟨v, hv, h1⟩
  ·exact .inl h1
  ·exact .inr (.inl ⟨p, List.mem_append_left _ hp, h1⟩)
  ·rcases List.mem_append.1 hv with hv | hv
   ·exact .inr (.inr ⟨v, hv, h1⟩)
   ·rw [List.mem_singleton] at hv
    subst hv
    exact .inr (.inl ⟨(x, v), by simp, h1⟩)
 few := by have := h.few; simp at this ⊢; omega
/-- The last open way needs nothing, and what it makes is made. -/
theorem MkInv.drop {α : Type} {T : List (Wy α)} {M : α → Bool} {P : List (α × WyD α)} {O : List (WyD α)} {w : WyD α} (h : MkInv T M P (O ++ [w])) (hm : M w.n = true) : MkInv T M P O where
 sound := h.sound
 wait := h.wait
 opened := fun v hv => h.opened v (List.mem_append_left _ hv)
 all := fun t ht => by
  rcases h.all t ht with h1 | h1 | ⟨v, hv, h1, h2⟩
  ·exact .inl h1
  ·exact .inr (.inl h1)
  ·rcases List.mem_append.1 hv with hv | hv
   ·exact .inr (.inr ⟨v, hv, h1, h2⟩)
   ·rw [List.mem_singleton] at hv
    subst hv
    exact .inl (by rw [← h1]; exact hm)
 few := by have := h.few; simp at this ⊢; omega
/-- What waits for a thing; what waits for others. -/
def onK {α : Type} [DecidableEq α] (P : List (α × WyD α)) (x : α) : List (WyD α) := (P.filter (fun p => decide (p.1 = x))).map Prod.snd
def offK {α : Type} [DecidableEq α] (P : List (α × WyD α)) (x : α) : List (α × WyD α) := P.filter (fun p => !decide (p.1 = x))
theorem on_snoc {α : Type} [DecidableEq α] (P : List (α × WyD α)) (x y : α) (w : WyD α) : onK (P ++ [(x, w)]) y = if y = x then onK P y ++ [w] else onK P y := by
 unfold onK
 rw [List.filter_append, List.map_append]
 by_cases e : y = x
 ·subst e; simp
 ·have : ¬ x = y := fun e2 => e e2.symm
  simp [e, this]
theorem on_off {α : Type} [DecidableEq α] {P : List (α × WyD α)} {x y : α} (h : y ≠ x) : onK (offK P x) y = onK P y := by
 unfold onK offK
 rw [List.filter_filter]
 congr 1
 refine List.filter_congr (fun p _ => ?_)
 by_cases e : p.1 = y
 ·subst e; simp [h]
 ·simp [e]
theorem on_off_len {α : Type} [DecidableEq α] (P : List (α × WyD α)) (x : α) : (offK P x).length + (onK P x).length = P.length := by
 unfold onK offK
 rw [List.length_map]
 induction P with
 | nil => rfl
 | cons p P ih =>
  by_cases e : p.1 = x
  ·simp [List.filter_cons, e]; omega
  ·simp [List.filter_cons, e]; omega
/-- The last open way needs nothing, and what it makes is new: what waits for it lies open. -/
theorem MkInv.make {α : Type} [DecidableEq α] {T : List (Wy α)} {M : α → Bool} {P : List (α × WyD α)} {O : List (WyD α)} {w : WyD α} (h : MkInv T M P (O ++ [w])) (hl : w.l = []) :
 MkInv T (fun t => decide (t = w.n) || M t) (offK P w.n) (O ++ onK P w.n) where
 sound := fun x hx => by
  simp only [Bool.or_eq_true, decide_eq_true_eq] at hx
  rcases hx with rfl | hx
  ·obtain ⟨pre, h1, h2⟩ := h.opened w (by simp)
   rw [hl, List.append_nil] at h1
   exact Mk.by_ h1 (fun y hy => h.sound y (h2 y hy))
  ·exact h.sound x hx
 wait := fun p hp => by
  obtain ⟨h1, h2⟩ := List.mem_filter.1 hp
  obtain ⟨h3, h4, h5⟩ := h.wait p h1
  refine ⟨h3.mono (fun _ h => h) (fun x hx => by simp [hx]), h4, ?_⟩
  simp only [Bool.not_eq_true', decide_eq_false_iff_not] at h2
  simp [h2, h5]
 opened := fun v hv => by
  rcases List.mem_append.1 hv with hv | hv
  ·exact (h.opened v (List.mem_append_left _ hv)).mono (fun _ h => h) (fun x hx => by simp [hx])
  ·obtain ⟨p, hp, rfl⟩ := List.mem_map.1 hv
   exact (h.wait p (List.mem_filter.1 hp).1).1.mono (fun _ h => h) (fun x hx => by simp [hx])
 all := fun t ht => by
  rcases h.all t ht with h1 | ⟨p, hp, h1⟩ | ⟨v, hv, h1⟩
  ·exact .inl (by simp [h1])
  ·by_cases e : p.1 = w.n
   ·exact .inr (.inr ⟨p.2, List.mem_append_right _ (List.mem_map.2 ⟨p, List.mem_filter.2 ⟨hp, by simp [e]⟩, rfl⟩), h1⟩)
   ·exact .inr (.inl ⟨p, List.mem_filter.2 ⟨hp, by simp [e]⟩, h1⟩)
  ·rcases List.mem_append.1 hv with hv | hv
   ·exact .inr (.inr ⟨v, List.mem_append_left _ hv, h1⟩)
   ·rw [List.mem_singleton] at hv
    subst hv
    exact .inl (by simp [h1.1])
 few := by
  have h1 := h.few
  have h2 := on_off_len P w.n
  simp at h1 ⊢
  omega
/-- With nothing open all that the ways make is made. -/
theorem MkInv.done {α : Type} {T : List (Wy α)} {M : α → Bool} {P : List (α × WyD α)} (h : MkInv T M P []) (x : α) : M x = true ↔ Mk T x := by
 constructor
 ·exact h.sound x
 ·intro k
  induction k with
  | @by_ w h1 _ ih =>
   rcases h.all w h1 with h2 | ⟨p, hp, h2, pre, h3⟩ | ⟨v, hv, _⟩
   ·exact h2
   ·obtain ⟨_, h4, h5⟩ := h.wait p hp
    have : p.1 ∈ w.l := by
     rw [h3]
     exact List.mem_append_right _ (List.mem_of_mem_head? h4)
    rw [ih p.1 this] at h5
    cases h5
   ·cases hv
/-- How much there is left to do. -/
def leftM {α : Type} (T : List (Wy α)) (M : α → Bool) (O : List (WyD α)) : Nat := T.countP (fun t => !M t.n) * (T.length + 1) + O.length
theorem left_pop {α : Type} (T : List (Wy α)) (M : α → Bool) (O : List (WyD α)) (w : WyD α) : leftM T M O < leftM T M (O ++ [w]) := by
 unfold leftM
 simp
theorem count_make {α : Type} [DecidableEq α] (M : α → Bool) (n : α) (hn : M n = false) : ∀ (T : List (Wy α)), (∃ t ∈ T, t.n = n) → T.countP (fun t => !(decide (t.n = n) || M t.n)) + 1 ≤ T.countP (fun t => !M t.n)
 | [], ⟨_, h, _⟩ => by cases h
 | t :: T, h => by
  have mono : T.countP (fun t => !(decide (t.n = n) || M t.n)) ≤ T.countP (fun t => !M t.n) := List.countP_mono_left (fun t _ h => by
   simp only [Bool.not_or, Bool.and_eq_true, Bool.not_eq_true'] at h ⊢
   exact h.2)
  by_cases e : t.n = n
  ·rw [List.countP_cons, List.countP_cons]
   simp [e, hn]
   simpa using mono
  ·have ih := count_make M n hn T (by
    obtain ⟨u, hu, hn⟩ := h
    rcases List.mem_cons.1 hu with rfl | hu
    ·exact absurd hn e
    ·exact ⟨u, hu, hn⟩)
   rw [List.countP_cons, List.countP_cons]
   simp only [e, decide_false, Bool.false_or]
   omega
theorem left_make {α : Type} [DecidableEq α] {T : List (Wy α)} {M : α → Bool} {P : List (α × WyD α)} {O : List (WyD α)} {w : WyD α} (h : MkInv T M P (O ++ [w])) (hl : w.l = []) (hn : M w.n = false) :
 leftM T (fun t => decide (t = w.n) || M t) (O ++ onK P w.n) < leftM T M (O ++ [w]) := by
 have h1 := (h.make hl).few
 obtain ⟨pre, h2, _⟩ := h.opened w (by simp)
 have h3 := count_make M w.n hn T ⟨_, h2, rfl⟩
 unfold leftM
 have h4 := Nat.mul_le_mul_right (T.length + 1) h3
 rw [Nat.add_mul, Nat.one_mul] at h4
 have h5 : (O ++ onK P w.n).length ≤ T.length := by omega
 have h6 : 0 < (O ++ [w]).length := by simp
 dsimp only at h4 h5 ⊢
 generalize List.countP (fun t => !(decide (t.n = w.n) || M t.n)) T * (T.length + 1) = g at h4 ⊢
 generalize List.countP (fun t => !M t.n) T * (T.length + 1) = f at h4 ⊢
 omega
end Go.Proofs.Ytldmgifphkpdlaa
namespace Go.Proofs.Ytldmgifphkpdlaa
/-- Reached from these, by steps. -/
inductive Rchd {α : Type} (from_ : List α) (St : α → α → Prop) : α → Prop
 | base {x : α} : x ∈ from_ → Rchd from_ St x
 | step {x y : α} : Rchd from_ St x → St x y → Rchd from_ St y
/-- Whether a thing is among some. -/
def memK {α : Type} [DecidableEq α] (x : α) (F : List α) : Bool := decide (x ∈ F)
theorem memK_iff {α : Type} [DecidableEq α] {x : α} {F : List α} : memK x F = true ↔ x ∈ F := by unfold memK; simp
theorem memK_not {α : Type} [DecidableEq α] {x : α} {F : List α} : memK x F = false ↔ x ∉ F := by unfold memK; simp
theorem memK_add {α : Type} [DecidableEq α] (t x : α) (F : List α) : memK t (F ++ [x]) = (decide (t = x) || memK t F) := by
 unfold memK
 by_cases e : t = x
 ·subst e; simp
 ·simp [e]
theorem memK_had {α : Type} [DecidableEq α] {x : α} {F : List α} (h : x ∈ F) (t : α) : memK t F = (decide (t = x) || memK t F) := by
 unfold memK
 by_cases e : t = x
 ·subst e; simp [h]
 ·simp [e]
/-- Found, and open: one thing more. -/
def adR {α : Type} [DecidableEq α] (s : List α × List α) (x : α) : List α × List α := if x ∈ s.1 then s else (s.1 ++ [x], s.2 ++ [x])
def adsR {α : Type} [DecidableEq α] (l : List α) (s : List α × List α) : List α × List α := l.foldl adR s
theorem ads_snoc {α : Type} [DecidableEq α] (l : List α) (x : α) (s : List α × List α) : adsR (l ++ [x]) s = adR (adsR l s) x := by simp [adsR, List.foldl_append]
theorem ads_app {α : Type} [DecidableEq α] (l m : List α) (s : List α × List α) : adsR (l ++ m) s = adsR m (adsR l s) := by simp [adsR, List.foldl_append]
theorem ads_take {α : Type} [DecidableEq α] (l : List α) (s : List α × List α) (k : Nat) (h : k < l.length) : adsR (l.take (k + 1)) s = adR (adsR (l.take k) s) l[k] := by
 rw [List.take_add_one, List.getElem?_eq_getElem h]
 exact ads_snoc _ _ _
theorem ads_mem {α : Type} [DecidableEq α] : ∀ (l : List α) (s : List α × List α) (x : α), x ∈ (adsR l s).1 ↔ x ∈ s.1 ∨ x ∈ l
 | [], s, x => by simp [adsR]
 | y :: l, s, x => by
  have e : adsR (y :: l) s = adsR l (adR s y) := rfl
  rw [e, ads_mem l (adR s y) x]
  unfold adR
  split
  ·rename_i h
   constructor
   ·rintro (h1 | h1)
    ·exact .inl h1
    ·exact .inr (List.mem_cons_of_mem _ h1)
   ·rintro (h1 | h1)
    ·exact .inl h1
    ·rcases List.mem_cons.1 h1 with rfl | h1
     ·exact .inl h
     ·exact .inr h1
  ·simp [or_assoc]
theorem ads_pre {α : Type} [DecidableEq α] : ∀ (l : List α) (s : List α × List α), ∃ t, adsR l s = (s.1 ++ t, s.2 ++ t) ∧ t.Nodup ∧ (∀ x ∈ t, x ∉ s.1 ∧ x ∈ l)
 | [], s => ⟨[], by simp [adsR], List.nodup_nil, fun x h => by cases h⟩
 | y :: l, s => by
  have e : adsR (y :: l) s = adsR l (adR s y) := rfl
  obtain ⟨t, h1, h2, h3⟩ := ads_pre l (adR s y)
  unfold adR at h1 h3 e
  by_cases hy : y ∈ s.1
  ·rw [if_pos hy] at h1 h3 e
   exact ⟨t, by rw [e, h1], h2, fun x hx => ⟨(h3 x hx).1, List.mem_cons_of_mem _ (h3 x hx).2⟩⟩
  ·rw [if_neg hy] at h1 h3 e
   refine ⟨y :: t, by rw [e, h1]; simp, List.nodup_cons.2 ⟨fun h => (h3 y h).1 (by simp), h2⟩, fun x hx => ?_⟩
   rcases List.mem_cons.1 hx with rfl | hx
   ·exact ⟨hy, by simp⟩
   ·exact ⟨fun h => (h3 x hx).1 (List.mem_append_left _ h), List.mem_cons_of_mem _ (h3 x hx).2⟩
/-- What is found (F), and what of it lies open (O). -/
structure RcInv {α : Type} (from_ : List α) (St : α → α → Prop) (F O : List α) : Prop where
 nodup : F.Nodup
 first : ∀ x ∈ from_, x ∈ F
 sound : ∀ x ∈ F, Rchd from_ St x
 opened : ∀ x ∈ O, x ∈ F
 closed : ∀ x ∈ F, x ∈ O ∨ ∀ y, St x y → y ∈ F
theorem RcInv.begin {α : Type} [DecidableEq α] (from_ : List α) (St : α → α → Prop) : RcInv from_ St (adsR from_ ([], [])).1 (adsR from_ ([], [])).2 := by
 obtain ⟨t, h1, h2, h3⟩ := ads_pre from_ ([], [])
 have hm := ads_mem from_ ([], [])
 rw [h1] at hm ⊢
 simp only [List.nil_append] at hm ⊢
 exact ⟨h2, fun x hx => (hm x).2 (.inr hx), fun x hx => .base (h3 x hx).2, fun x hx => hx, fun x hx => .inl hx⟩
theorem RcInv.step {α : Type} [DecidableEq α] {from_ : List α} {St : α → α → Prop} {F O : List α} {x : α} (h : RcInv from_ St F (O ++ [x])) {l : List α} (hl : ∀ y, y ∈ l ↔ St x y) :
 RcInv from_ St (adsR l (F, O)).1 (adsR l (F, O)).2 := by
 obtain ⟨t, h1, h2, h3⟩ := ads_pre l (F, O)
 have hm := ads_mem l (F, O)
 rw [h1] at hm ⊢
 simp only [] at hm h3 ⊢
 refine ⟨List.nodup_append.2 ⟨h.nodup, h2, fun a ha b hb e => (h3 b hb).1 (by rw [← e]; exact ha)⟩, fun y hy => List.mem_append_left _ (h.first y hy), fun y hy => ?_, fun y hy => ?_, fun y hy => ?_⟩
 ·rcases List.mem_append.1 hy with hy | hy
  ·exact h.sound y hy
  ·exact .step (h.sound x (h.opened x (by simp))) ((hl y).1 (h3 y hy).2)
 ·rcases List.mem_append.1 hy with hy | hy
  ·exact List.mem_append_left _ (h.opened y (List.mem_append_left _ hy))
  ·exact List.mem_append_right _ hy
 ·rcases List.mem_append.1 hy with hy | hy
  ·rcases h.closed y hy with h4 | h4
   ·rcases List.mem_append.1 h4 with h4 | h4
    ·exact .inl (List.mem_append_left _ h4)
    ·rw [List.mem_singleton] at h4
     subst h4
     exact .inr (fun z hz => (hm z).2 (.inr ((hl z).2 hz)))
   ·exact .inr (fun z hz => List.mem_append_left _ (h4 z hz))
  ·exact .inl (List.mem_append_right _ hy)
theorem RcInv.done {α : Type} {from_ : List α} {St : α → α → Prop} {F : List α} (h : RcInv from_ St F []) (x : α) : x ∈ F ↔ Rchd from_ St x := by
 constructor
 ·exact h.sound x
 ·intro k
  induction k with
  | base h1 => exact h.first _ h1
  | @step u v _ h2 ih =>
   rcases h.closed u ih with h3 | h3
   ·cases h3
   ·exact h3 v h2
theorem nodupLe {α : Type} [DecidableEq α] : ∀ (l m : List α), l.Nodup → (∀ a ∈ l, a ∈ m) → l.length ≤ m.length
 | [], _, _, _ => Nat.zero_le _
 | a :: l, m, h, hs => by
  rw [List.nodup_cons] at h
  have h1 := nodupLe l (m.erase a) h.2 (fun b hb => (List.mem_erase_of_ne (fun (e : b = a) => h.1 (by rw [← e]; exact hb))).2 (hs b (List.mem_cons_of_mem _ hb)))
  have h2 := List.length_erase_of_mem (hs a List.mem_cons_self)
  have h3 : 0 < m.length := List.length_pos_of_mem (hs a List.mem_cons_self)
  rw [List.length_cons]
  omega
theorem RcInv.len {α : Type} [DecidableEq α] {from_ : List α} {St : α → α → Prop} {F O : List α} (h : RcInv from_ St F O) {U : List α} (hU : ∀ x, Rchd from_ St x → x ∈ U) : F.length ≤ U.length :=
 nodupLe F U h.nodup (fun x hx => hU x (h.sound x hx))
/-- How much there is left to do. -/
def leftR (u f o : Nat) : Nat := 2 * (u - f) + o
theorem left_step {α : Type} [DecidableEq α] {from_ : List α} {St : α → α → Prop} {F O : List α} {x : α} (h : RcInv from_ St F (O ++ [x])) {l : List α} (hl : ∀ y, y ∈ l ↔ St x y) {U : List α} (hU : ∀ x, Rchd from_ St x → x ∈ U) :
 leftR U.length (adsR l (F, O)).1.length (adsR l (F, O)).2.length < leftR U.length F.length (O ++ [x]).length := by
 have h1 := (h.step hl).len hU
 obtain ⟨t, h2, _⟩ := ads_pre l (F, O)
 rw [h2] at h1 ⊢
 unfold leftR
 simp only [List.length_append, List.length_singleton] at h1 ⊢
 omega
end Go.Proofs.Ytldmgifphkpdlaa
namespace Go.Proofs.Ytldmgifphkpdlaa
open Go.RowKit Go.Maps Go.WideMaps
theorem zero_unit (w : World) : (zeroValue 86).run Try.prog w = .ok (.agg #[]) w := by kernel_rfl
end Go.Proofs.Ytldmgifphkpdlaa
namespace Go.Proofs.Ytldmgifphkpdlaa
open Go.RowKit Go.Maps
end Go.Proofs.Ytldmgifphkpdlaa
namespace Go.Proofs.Ytldmgifphkpdlaa
open Go.RowKit
section
variable {w w' : World} {base e size n cap : Nat} {v : Value} {a : Option Addr} {xs : List Value}
theorem own_typ (h : w.ownsRow base e size (.slice a n cap) n xs) : ∀ g, (Value.slice a n cap).ownBlock = some g → base ≤ g ∧ ∃ cur, w.heap[g]? = some (.cells cur e (0, 0)) := by
 intro g hg
 rcases h.2 with ⟨e, _⟩ | ⟨g', cap', cur, e, hb, hk, _⟩
 ·rw [e] at hg; cases hg
 ·rw [e] at hg
  simp only [Value.ownBlock, Option.some.injEq] at hg
  subst hg
  exact ⟨hb, cur, hk⟩
theorem own_ne_ty (h : w.ownsRow base e size (.slice a n cap) n xs) {g t : Nat} {cur : Array Value} {fr : Nat × Nat} (hk : w.heap[g]? = some (.cells cur t fr)) (ht : e ≠ t) : (Value.slice a n cap).ownBlock ≠ some g := by
 intro e0
 obtain ⟨_, cur', h2⟩ := own_typ h g e0
 rw [hk] at h2
 cases h2
 exact ht rfl
theorem own_mono {base' : Nat} (h : w.ownsRow base e size v n xs) (hb : base' ≤ base) : w.ownsRow base' e size v n xs :=
 ⟨h.1, h.2.imp id (fun ⟨g, cp, cur, e1, e2, e3⟩ => ⟨g, cp, cur, e1, Nat.le_trans hb e2, e3⟩)⟩
end
/-- A value is put onto an own row. -/
theorem run_pushV (w : World) (sT ty eT : TypeId) (zv : Value) (sz by_ : Nat) (hu : Try.prog.underlying sT = some (.slice eT)) (hinfo : (Try.prog.info? eT).map (fun i => (i.zero, i.size, i.bytes)) = some (some zv, sz, by_)) (hzs : zv.cells.size = sz) (hsz : 0 < sz) (hby : by_ ≤ 40) (cs : List Value) (hcl : cs.length = sz) (h1 : ∀ u ∈ cs, u.oneCell' = true)
 {base n cap : Nat} {a : Option Addr} {xs : List Value} (hown : w.ownsRow base eT sz (.slice a n cap) n xs) (hn : n + 1 ≤ 1099511627780) (hbase : base ≤ w.heap.size) :
 ∃ a' cap' w', (Builtin.append_ #[sT, sT] ty #[.slice a n cap, .slice (some ⟨w.heap.size, 0, none⟩) 1 1]).run Try.prog (w.alloc (.cells cs.toArray eT)) = .ok (.slice a' (n + 1) cap') w' ∧
  w'.ownsRow base eT sz (.slice a' (n + 1) cap') (n + 1) (xs ++ cs) ∧ w.grownBy w' (Value.slice a n cap).ownBlock := by
 obtain ⟨i0, hi, hz0, hz1, hz2⟩ := info_parts hinfo
 have hnew : ∀ j u, cs[j]? = some u → (w.alloc (.cells cs.toArray eT)).cell? ((⟨w.heap.size, 0, none⟩ : Addr).add j) = some u := by
  intro j u hj
  have := World.alloc_heap_new w (.cells cs.toArray eT)
  have e : ((⟨w.heap.size, 0, none⟩ : Addr).add j) = ⟨w.heap.size, j, none⟩ := by simp [Addr.add]; exact Eq.symm
  rw [e]
  unfold World.cell?
  rw [show ((⟨w.heap.size, j, none⟩ : Addr).block) = w.heap.size from rfl, this]
  simp only [Option.bind_some]
  simpa using hj
 obtain ⟨y, w', hrun, ho, hg, _⟩ := run_append_own (P := Try.prog) (w.alloc (.cells cs.toArray eT)) base sT ty eT i0 zv sz by_ hu hi hz0 hz1 hz2 hzs hsz _ n _ (hown.alloc _) ⟨w.heap.size, 0, none⟩ 1 1 cs (by rw [hcl]; omega) hnew h1 (by unfold maxLen; omega) (by have := Nat.mul_le_mul (show n + 1 ≤ 1099511627780 from hn) hby; omega) (by simp; omega)
 obtain ⟨a', cap', rfl⟩ := slice_of_own ho
 exact ⟨a', cap', w', hrun, ho, grownBy_trans (World.grownBy_alloc w _ _) hg (fun i e => .inl e)⟩
theorem info_str : (Try.prog.info? 9).map (fun i => (i.zero, i.size, i.bytes)) = some (some (.string ⟨#[]⟩), 1, 16) := by kernel_rfl
theorem info_rule : (Try.prog.info? 143).map (fun i => (i.zero, i.size, i.bytes)) = some (some (.agg #[.string ⟨#[]⟩, .slice none 0 0]), 2, 40) := by kernel_rfl
end Go.Proofs.Ytldmgifphkpdlaa
namespace Go.Proofs.Ytldmgifphkpdlaa
open Go.RowKit Go.Maps Go.WideMaps
theorem belowAt {B : Nat} {a b : World} {r : Option Nat} (h : a.grownBy b r) (hr : ∀ i, r = some i → B ≤ i) (hB : B ≤ a.heap.size) : Below B a b :=
 ⟨h.os, h.tape, h.output, h.size, fun k hk => h.block k (Nat.lt_of_lt_of_le hk hB) (fun e => by have := hr k e.symm; omega)⟩
/-- How a slice reads as an element of a map: as it stands. -/
def slcE (v : Value) : Option (DataW Value × List MemPlace) := some (.held v, [])
end Go.Proofs.Ytldmgifphkpdlaa
namespace Go.Proofs.Ytldmgifphkpdlaa
open Go.RowKit Go.Maps
attribute [local go_sem] Oper.semAt_some
section
variable {W W' : World} {base ob sb b n : Nat} {a : Option Addr} {c : Nat} {F O : List ByteArray} {row : Option Nat}
end
end Go.Proofs.Ytldmgifphkpdlaa
namespace Go.Proofs.Ytldmgifphkpdlaa
open Go.RowKit Go.Maps
attribute [local go_sem] Oper.semAt_some
theorem cons_lastR {α : Type} : ∀ (l : List α), l = [] ∨ ∃ m x, l = m ++ [x]
 | [] => .inl rfl
 | a :: l => by
  rcases cons_lastR l with rfl | ⟨m, x, rfl⟩
  ·exact .inr ⟨[], a, rfl⟩
  ·exact .inr ⟨a :: m, x, rfl⟩
end Go.Proofs.Ytldmgifphkpdlaa
namespace Go.Proofs.Ytldmgifphkpdlaa
open Go.RowKit
/-- A span. -/
structure Sp where
 lo : UInt8
 hi : UInt8
deriving DecidableEq
/-- What an expression holds itself. -/
structure Hd where
 k : Int
 set : List Sp
/-- A list of expressions, each with its own list. -/
inductive Fo where
 | nil
 | cons (h : Hd) (kids rest : Fo)
def Fo.len : Fo → Nat
 | .nil => 0
 | .cons _ _ rest => rest.len + 1
/-- How many expressions there are in all. -/
def Fo.size : Fo → Nat
 | .nil => 0
 | .cons _ kids rest => kids.size + rest.size + 1
/-- A node of the walk over all that is in an expression: how deep it stands, what it holds, how many it has. -/
structure Nd where
 d : Nat
 h : Hd
 len : Nat
/-- A list's expressions and all that are in them, each ahead of its own list. -/
def Fo.pre (d : Nat) : Fo → List Nd
 | .nil => []
 | .cons h kids rest => ⟨d, h, kids.len⟩ :: (kids.pre (d + 1) ++ rest.pre d)
/-- Rounds that are still to come. -/
def steps : List Fo → Nat
 | [] => 0
 | f :: fs => 2 * f.size + 1 + steps fs
end Go.Proofs.Ytldmgifphkpdlaa
namespace Go.Proofs.Ytldmgifphkpdlaa
open Go.RowKit Go.Shelf
variable {P : Program}
end Go.Proofs.Ytldmgifphkpdlaa
namespace Go.Proofs.Ytldmgifphkpdlaa
open Go.RowKit
abbrev OwnR (w : World) (base : Nat) (a : Option Addr) (c : Nat) (rs : List RlD) : Prop := w.ownsRow base 143 2 (.slice a rs.length c) rs.length (rs.flatMap RlD.cells)
section
variable {w w' : World} {base size n cap : Nat} {e : TypeId} {a : Option Addr} {xs : List Value} {row : Option Nat}
theorem own_kept_ty (h : w.ownsRow base e size (.slice a n cap) n xs) (hg : w.grownBy w' row) (hrow : ∀ g, row = some g → ∃ cur t fr, w.heap[g]? = some (.cells cur t fr) ∧ e ≠ t) : w'.ownsRow base e size (.slice a n cap) n xs := by
 rcases h0 : (Value.slice a n cap).ownBlock with _ | k
 ·exact h.kept hg (.inl h0)
 ·refine h.kept hg (.inr (fun e0 => ?_))
  rw [h0] at e0
  obtain ⟨cur, t, fr, hk, ht⟩ := hrow k e0.symm
  exact own_ne_ty h hk ht h0
end
section
variable {w w' : World} {B m m1 m2 : Nat} {row : Option Nat}
end
section
variable {w : World} {B rb place rc : Nat} {rs : List RlD} {ra : Option Addr}
end
end Go.Proofs.Ytldmgifphkpdlaa
namespace Go.Proofs.Ytldmgifphkpdlaa
open Go.RowKit Go.Shelf
attribute [local go_sem] Oper.semAt_some
end Go.Proofs.Ytldmgifphkpdlaa
namespace Go.Proofs.Ytldmgifphkpdlaa
open Go.RowKit Go.Shelf
attribute [local go_sem] Oper.semAt_some
theorem let_t {c : UInt8} (h : (97 ≤ c.toNat ∧ c.toNat ≤ 122) ∨ (65 ≤ c.toNat ∧ c.toNat ≤ 90) ∨ c.toNat = 95) : letB c = true := by
 unfold letB; simp only [Bool.or_eq_true, Bool.and_eq_true, decide_eq_true_eq]; omega
theorem let_f {c : UInt8} (h : ¬ ((97 ≤ c.toNat ∧ c.toNat ≤ 122) ∨ (65 ≤ c.toNat ∧ c.toNat ≤ 90) ∨ c.toNat = 95)) : letB c = false := by
 rw [Bool.eq_false_iff]; unfold letB; simp only [ne_eq, Bool.or_eq_true, Bool.and_eq_true, decide_eq_true_eq]; omega
theorem dig_t {c : UInt8} (h : 48 ≤ c.toNat ∧ c.toNat ≤ 57) : digB c = true := by
 unfold digB; simp only [Bool.and_eq_true, decide_eq_true_eq]; omega
theorem dig_f {c : UInt8} (h : ¬ (48 ≤ c.toNat ∧ c.toNat ≤ 57)) : digB c = false := by
 rw [Bool.eq_false_iff]; unfold digB; simp only [ne_eq, Bool.and_eq_true, decide_eq_true_eq]; omega
theorem dlen (s : ByteArray) : s.data.toList.length = s.size := by rw [Array.length_toList]; rfl
end Go.Proofs.Ytldmgifphkpdlaa
namespace Go.Proofs
open Go.Shelf
end Go.Proofs
namespace Go.Proofs.Ytldmgifphkpdlaa
open Go.RowKit Go.Shelf
attribute [local go_sem] Oper.semAt_some
end Go.Proofs.Ytldmgifphkpdlaa
namespace Go.Proofs.Ytldmgifphkpdlaa
open Go.RowKit Go.Shelf
attribute [local go_sem] Oper.semAt_some
end Go.Proofs.Ytldmgifphkpdlaa
namespace Go.Proofs.Ytldmgifphkpdlaa
open Go.RowKit Go.Shelf
attribute [local go_sem] Oper.semAt_some
theorem loop_is (s : ByteArray) : ∀ (n i : Nat) (r : List UInt8), s.size - i = n → ByteArray.toList.loop s i r = r.reverse ++ s.data.toList.drop i := by
 intro n
 induction n with
 | zero => intro i r h; unfold ByteArray.toList.loop; rw [if_neg (by omega), List.drop_eq_nil_of_le (by rw [dlen]; omega)]; simp
 | succ n ih =>
  intro i r h
  have hi : i < s.data.toList.length := by rw [dlen]; omega
  unfold ByteArray.toList.loop
  rw [if_pos (by omega), ih _ _ (by omega), List.drop_eq_getElem_cons hi]
  have : s.get! i = s.data.toList[i] := by
   cases s with
   | mk data =>
    show data[i]! = data.toList[i]
    rw [getElem!_pos data i (by simpa using hi)]
    simp
  rw [this]
  simp
theorem toList_is (s : ByteArray) : s.toList = s.data.toList := by
 unfold ByteArray.toList
 rw [loop_is s _ 0 [] rfl]
 simp
end Go.Proofs.Ytldmgifphkpdlaa
namespace Go.Proofs.Ytldmgifphkpdlaa
open Go.RowKit Go.Shelf
variable {P : Program}
end Go.Proofs.Ytldmgifphkpdlaa
namespace Go.Proofs.Ytldmgifphkpdlaa
open Go.RowKit Go.Shelf
attribute [local go_sem] Oper.semAt_some
/-- An append whose run is known, as a step of a region that draws its order. -/
theorem step_append_run {P : Program} {ops : Array Oper} {o : Oper} {a : Act} {w : World} {K : Act → World → Prop} {Q : Exit → Act → World → Prop} {E : Prop} (hgd : o.guard = none) (s x : Operand) (t t2 : TypeId)
 (hop : o.op = Op.call { callee := Callee.builtin Builtin.append, args := #[s, x], argTypes := #[t, t2] }) (vs vx v' : Value) (w' : World) (hs : a.eval s = vs) (hx : a.eval x = vx)
 (hrun : (Builtin.append_ #[t, t2] o.type #[vs, vx]).run P w = .ok v' w') (h : K (a.put o.dst v') w') :
 if Region.wanted o (yielded ops a.tmps) = true then Oper.wp P o a w K Q else E := by
 have hw : Region.wanted o (yielded ops a.tmps) = true := by simp [Region.wanted, hgd]
 rw [if_pos hw]
 unfold Oper.wp
 simp [execOp, hop, resolve, invoke, builtin, hs, hx, hrun, Result.andThen]
 exact h
end Go.Proofs.Ytldmgifphkpdlaa
namespace Go.Proofs.Ytldmgifphkpdlaa
open Go.RowKit Go.Shelf
attribute [local go_sem] Oper.semAt_some
end Go.Proofs.Ytldmgifphkpdlaa
namespace Go.Proofs.Ytldmgifphkpdlaa
open Go.RowKit Go.Shelf
attribute [local go_sem] Oper.semAt_some
def longA (d : AltD) : Bool := decide (30 < d.l.length)
def longR (r : RlD) : Bool := decide (30 < r.ds.length) || r.ds.any longA
def longG (rs : List RlD) : Bool := decide (60 < rs.length) || rs.any longR
end Go.Proofs.Ytldmgifphkpdlaa
namespace Go.Proofs.Ytldmgifphkpdlaa
open Go.RowKit Go.Shelf
/-- A row that is one's own lies as a row. -/
theorem own_vs {w : World} {base n cap : Nat} {e : TypeId} {a : Option Addr} {xs : List Value} (h : w.ownsRow base e 1 (.slice a n cap) n xs) : Vs w a cap xs := by
 have hn : xs.length = n := by have := h.1; omega
 rcases h.2 with ⟨e1, e0⟩ | ⟨g, cp, cur, e1, hb, hk, hnc, hcm, _⟩
 ·injection e1 with e1 e2 e3
  exact ⟨by omega, by omega, fun _ => e3, fun i hi => by omega, fun b off e => (by rw [e1] at e; cases e)⟩
 ·injection e1 with e1 e2 e3
  refine ⟨by omega, by unfold maxLen at hcm; omega, fun e => (by rw [e1] at e; cases e), fun i hi => ⟨g, 0, e1⟩, fun b off e i hi => ?_⟩
  rw [e1] at e
  cases e
  subst e1
  have := World.ownsRow.cellAt h i (by omega)
  rw [Nat.zero_add, this]
  exact List.getElem?_eq_getElem hi
end Go.Proofs.Ytldmgifphkpdlaa
namespace Go.Proofs.Ytldmgifphkpdlaa
open Go.RowKit Go.Shelf
attribute [local go_sem] Oper.semAt_some
def mayR (r : RlD) : Bool := nameB r.n && decide (r.ds.length ≠ 0) && r.ds.all (fun d => d.l.all nameB)
def mayG (rs : List RlD) : Bool := rs.all mayR && decide (0 < rs.length)
def chkG (rs : List RlD) : Int := if mayG rs then if longG rs then 2 else 0 else 1
end Go.Proofs.Ytldmgifphkpdlaa
namespace Go.Proofs.Ytldmgifphkpdlaa
end Go.Proofs.Ytldmgifphkpdlaa
namespace Go.Proofs.Ytldmgifphkpdlaa
open Go.RowKit Go.Shelf
attribute [local go_sem] Oper.semAt_some
theorem str_ne {s t : ByteArray} (h : ¬ s = t) : (s.toList == t.toList) = false := by
 rw [beq_eq_false_iff_ne]
 intro e
 rw [toList_is, toList_is] at e
 exact h (by cases s; cases t; rename_i x y; simp at e; rw [e])
set_option maxRecDepth 100000 in
set_option maxHeartbeats 1000000 in
theorem sameNames_any (a b : Option Addr) (ac bc : Nat) (l m : List ByteArray) (w : World) (hl : Nms w a ac l) (hm : Nms w b bc m) :
 Calls Try.prog 113 #[.slice a l.length ac, .slice b m.length bc] w fun e w' => e = .returned (.bool (decide (l = m))) ∧ Below w.heap.size w w' := by
 have hle : l.length ≤ ac := by have := hl.le; rwa [List.length_map] at this
 have hmx := hl.max
 have hle2 : m.length ≤ bc := by have := hm.le; rwa [List.length_map] at this
 have hmx2 := hm.max
 obtain ⟨L, HL⟩ : ∃ L, Hid (l.length = L) := ⟨_, Lib.hid rfl⟩
 obtain ⟨M, HM⟩ : ∃ L, Hid (m.length = L) := ⟨_, Lib.hid rfl⟩
 rw [HL.out] at hle ⊢
 rw [HM.out] at hle2 ⊢
 by_cases hLM : L = M
 ·subst hLM
  go_enter Try.func113, Try.ntmps113
  go_wp2_with (fail)
  go_loopw [5, 13] (fun _ i wr => ∃ (k : Nat), k ≤ L ∧ i = .int .i64 (k : Int) ∧ l.take k = m.take k ∧ Below w.heap.size w wr) (fun _ i _ => L - (intOf i).toNat)
  case atStart => exact ⟨0, by omega, rfl, rfl, Below.refl _ w⟩
  case round =>
   obtain ⟨k, hk, rfl, hr, hbr⟩ := hrel
   have HR := Lib.hid hr
   clear hr
   by_cases hlt : k < L
   ·have hkl : k < l.length := by rw [HL.out]; exact hlt
    have hkm : k < m.length := by rw [HM.out]; exact hlt
    have hkI : (k : Int) < (L : Int) := by omega
    have hkI0 : (0 : Int) ≤ (k : Int) := by omega
    obtain ⟨b1, o1, rfl⟩ := hl.at_ k (by rw [List.length_map]; exact hkl)
    obtain ⟨b2, o2, rfl⟩ := hm.at_ k (by rw [List.length_map]; exact hkm)
    have c0 := (hl.grown hbr).cell b1 o1 rfl k (by rw [List.length_map]; exact hkl)
    have d0 := (hm.grown hbr).cell b2 o2 rfl k (by rw [List.length_map]; exact hkm)
    rw [List.getElem_map] at c0 d0
    obtain ⟨s, HS⟩ : ∃ s, Hid (l[k] = s) := ⟨_, Lib.hid rfl⟩
    obtain ⟨t, HT⟩ : ∃ s, Hid (m[k] = s) := ⟨_, Lib.hid rfl⟩
    rw [HS.out] at c0
    rw [HT.out] at d0
    have hmore : Hid (l.take (k + 1) = l.take k ++ [s] ∧ m.take (k + 1) = m.take k ++ [t]) := Lib.hid ⟨by rw [List.take_add_one, List.getElem?_eq_getElem hkl, HS.out]; rfl, by rw [List.take_add_one, List.getElem?_eq_getElem hkm, HT.out]; rfl⟩
    have hne : Hid (s ≠ t → decide (l = m) = false) := Lib.hid (fun h => decide_eq_false (fun e => h (by rw [← HS.out, ← HT.out]; subst e; rfl)))
    have hbd : Below w.heap.size w wr := hbr
    have hbl := World.block_lt_of_cell? _ _ c0
    have hbl2 := World.block_lt_of_cell? _ _ d0
    by_cases e1 : s = t
    ·subst e1
     clear hl hm
     go_wp2_with (fail)
     go_region
     all_goals
      go_wp2_with (fail)
      go_roundw
     case rel => exact ⟨k + 1, by omega, by go_num, by rw [hmore.out.1, hmore.out.2, HR.out], hbd.drew⟩
     case measure => simp [intOf]; omega
    ·have e3 : (s.toList == t.toList) = false := str_ne e1
     have hF := Lib.hid (hne.out e1)
     clear hl hm
     go_wp2_with (fail)
     go_region
     go_wp2_with (fail)
     exact bodyPost_ret (v := .bool false) (by simp [results, Try.results113, go_sem]; try rfl) rfl ⟨by rw [hF.out], hbd.drew⟩
   ·obtain rfl : k = L := by omega
    have hT : Hid (decide (l = m) = true) := Lib.hid (decide_eq_true (by have := HR.out; rwa [List.take_of_length_le (by rw [HL.out]; exact Nat.le_refl _), List.take_of_length_le (by rw [HM.out]; exact Nat.le_refl _)] at this))
    go_wp2_with (fail)
    exact bodyPost_ret (v := .bool true) (by simp [results, Try.results113, go_sem]; try rfl) rfl ⟨by rw [hT.out], hbr⟩
 ·have hF : Hid (decide (l = m) = false) := Lib.hid (decide_eq_false (fun e => hLM (by rw [← HL.out, ← HM.out, e])))
  have hne : ((L : Int) == (M : Int)) = false := by rw [beq_eq_false_iff_ne]; omega
  go_enter Try.func113, Try.ntmps113
  go_wp2_with (fail)
  all_goals first
   | exact bodyPost_ret (v := .bool false) (by simp [results, Try.results113, go_sem]; try rfl) rfl ⟨by rw [hF.out], Below.refl _ w⟩
   | (exfalso; omega)
end Go.Proofs.Ytldmgifphkpdlaa
namespace Go.Proofs.Ytldmgifphkpdlaa
open Go.RowKit Go.Shelf
attribute [local go_sem] Oper.semAt_some
theorem altv (d : AltD) : d.v = .slice d.a d.l.length d.c := rfl
end Go.Proofs.Ytldmgifphkpdlaa
namespace Go.Proofs.Ytldmgifphkpdlaa
open Go.RowKit Go.Shelf
attribute [local go_sem] Oper.semAt_some
end Go.Proofs.Ytldmgifphkpdlaa
namespace Go.Proofs.Ytldmgifphkpdlaa
open Go.RowKit Go.Shelf
attribute [local go_sem] Oper.semAt_some
theorem grP_take (l : List RlD) (k : Nat) (h : k < l.length) : grP (l.take (k + 1)) = grP (l.take k) ++ [(l[k]).p] := by
 unfold grP; rw [List.take_add_one, List.getElem?_eq_getElem h, List.map_append]; rfl
theorem alP_take (l : List AltD) (k : Nat) (h : k < l.length) : (l.take (k + 1)).map AltD.l = (l.take k).map AltD.l ++ [(l[k]).l] := by
 rw [List.take_add_one, List.getElem?_eq_getElem h, List.map_append]; rfl
end Go.Proofs.Ytldmgifphkpdlaa
namespace Go.Proofs.Ytldmgifphkpdlaa
end Go.Proofs.Ytldmgifphkpdlaa
