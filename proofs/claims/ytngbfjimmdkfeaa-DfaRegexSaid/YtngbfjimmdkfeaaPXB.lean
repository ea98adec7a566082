/- Texts joined: All Order Plain Check. -/
import Derived.Test.YtngbfjimmdkfeaaPXA
import Derived.OwnWalkIn
import Derived.TacticsInMore
import Derived.LoopNIn
import Derived.LoopIn
import Derived.Sort.LoopGhostIn
import Derived.Deep.RegionLaw
import Derived.Test.YtngbfjimmdkfeaaRows
import Derived.Outline
import Derived.WalkKit
import Derived.WalkLawsBesides
import Derived.WalkSpells
import Derived.OwnWalk
import Derived.BigQuiet
import Derived.Deep.QuietTactic
set_option linter.unusedVariables false
set_option linter.unusedSimpArgs false
namespace Go.Proofs.Ytngbfjimmdkfeaa
open Go.RowKit Go.Shelf

attribute [local go_sem] Oper.semAt_some

/-- A node with the value of its list. -/
structure Nx where
  nd : Nd
  sa : Option Addr
  sc : Nat
  a : Option Addr
  cap : Nat

def encs (x : Nx) : Array Value := #[.int .i64 (x.nd.d : Int), itemV x.nd.h x.sa x.sc x.a x.nd.len x.cap]

/-- What may have come; the spans of what came lie as they lay in w0. -/
def Good (w0 : World) (all : List Nd) (pre : List Nx) : Prop := (∃ r, pre.map (·.nd) ++ r = all) ∧ ∀ x ∈ pre, Sps w0 x.sa x.sc x.nd.h.set
def Full (all : List Nd) (pre : List Nx) : Prop := pre.map (·.nd) = all

/-- The types of the iterator's own rows. -/
def itT (t : TypeId) : Bool := t == 42 || t == 45 || t == 125

/-- The function that tells an item's list, as a value. -/
abbrev inV : Value := .func (.func 80) #[] #[]

/-- What the value of an open list leads to: items of the caller's, as they lay in w0; or the item itself, in the block R. -/
def Ent (w0 wr : World) (R : Nat) (v : Value) (f : Fo) : Prop :=
  (∃ a cap, v = .slice a f.len cap ∧ Items w0 a cap f) ∨
  (∃ h kids sa sc ka kcap, f = .cons h kids .nil ∧ v = .slice (some ⟨R, 0, none⟩) 1 1 ∧ wr.heap[R]? = some (.cells #[.int .i64 h.k, .slice sa h.set.length sc, .slice ka kids.len kcap] 45 (0, 0)) ∧ Items w0 ka kcap kids ∧ Sps w0 sa sc h.set)

def Stk (w0 wr : World) (R : Nat) : List Fo → List Value → Prop
  | [], [] => True
  | f :: fs, v :: vs => Ent w0 wr R v f ∧ Stk w0 wr R fs vs
  | _, _ => False

theorem Ent.turn {w0 wr wr' : World} {R : Nat} {v : Value} {f : Fo} (h : Ent w0 wr R v f) (hk : ∀ (cs : Array Value), wr.heap[R]? = some (.cells cs 45 (0, 0)) → wr'.heap[R]? = some (.cells cs 45 (0, 0))) : Ent w0 wr' R v f := by
  rcases h with h | ⟨h, kids, sa, sc, ka, kcap, e1, e2, e3, e4⟩
  · exact .inl h
  · exact .inr ⟨h, kids, sa, sc, ka, kcap, e1, e2, hk _ e3, e4⟩
theorem Stk.turn {w0 wr wr' : World} {R : Nat} (hk : ∀ (cs : Array Value), wr.heap[R]? = some (.cells cs 45 (0, 0)) → wr'.heap[R]? = some (.cells cs 45 (0, 0))) : ∀ (fs : List Fo) (vs : List Value), Stk w0 wr R fs vs → Stk w0 wr' R fs vs := by
  intro fs
  induction fs with
  | nil => intro vs h; cases vs with
    | nil => trivial
    | cons v vs => exact h.elim
  | cons f fs ih => intro vs h; cases vs with
    | nil => exact h.elim
    | cons v vs => exact ⟨h.1.turn hk, ih vs h.2⟩
theorem Stk.length {w0 wr : World} {R : Nat} : ∀ (fs : List Fo) (vs : List Value), Stk w0 wr R fs vs → vs.length = fs.length := by
  intro fs
  induction fs with
  | nil => intro vs h; cases vs with
    | nil => rfl
    | cons v vs => exact h.elim
  | cons f fs ih => intro vs h; cases vs with
    | nil => exact h.elim
    | cons v vs => simp [ih vs h.2]

/-- The first item of an open list, read in a world and in each one behind a round. -/
theorem Ent.first {n₀ : Nat} {w0 wr : World} {R : Nat} {v : Value} {h : Hd} {kids rest : Fo} (hw : Below w0.heap.size w0 wr) (hn₀ : n₀ = w0.heap.size) (he : Ent w0 wr R v (.cons h kids rest)) :
    ∃ b off cap sa sc ka kcap, v = .slice (some ⟨b, off, none⟩) (rest.len + 1) cap ∧ rest.len + 1 ≤ cap ∧ cap ≤ 9223372036854775807 ∧
      (∀ W', (W' = wr ∨ Spares n₀ itT wr W') → W'.cell? ⟨b, off, none⟩ = some (.int .i64 h.k) ∧ W'.cell? ⟨b, off + 1, none⟩ = some (.slice sa h.set.length sc) ∧ W'.cell? ⟨b, off + 2, none⟩ = some (.slice ka kids.len kcap)) ∧
      (∀ (gg : Nat) (cur : Array Value), wr.heap[gg]? = some (.cells cur 42 (0, 0)) → w0.heap.size ≤ gg → b ≠ gg) ∧
      Items w0 ka kcap kids ∧ Items w0 (if cap = 1 then some ⟨b, off, none⟩ else some ⟨b, off + 3, none⟩) (cap - 1) rest ∧ Sps w0 sa sc h.set := by
  subst hn₀
  rcases he with ⟨a, cap, rfl, hi⟩ | ⟨h', kids', sa, sc, ka, kcap, e1, rfl, e3, e4, e5⟩
  · obtain ⟨b, off, rfl, h1, ⟨sa, sc, h2, h3⟩, ⟨ka, kcap, h4, h5, h6, h7, h8⟩, h9⟩ := hi.at_ (by simp [Fo.len])
    have hle := hi.le
    simp only [Fo.len] at hle
    refine ⟨b, off, cap, sa, sc, ka, kcap, rfl, hle, hi.max, ?_, fun gg cur _ hgg => by have := World.block_lt_of_cell? w0 _ h1; simp only at this; omega, ⟨h5, h6, h7, h8⟩, ⟨by omega, by have := hi.max; omega, fun e => (by split at e <;> cases e), fun hr => ?_⟩, h3⟩
    · have hc : ∀ W', (W' = wr ∨ Spares w0.heap.size itT wr W') → ∀ o v, w0.cell? ⟨b, o, none⟩ = some v → W'.cell? ⟨b, o, none⟩ = some v := by
        intro W' hW o v hv
        have hlt := World.block_lt_of_cell? w0 _ hv
        rcases hW with rfl | hW
        · exact (hw.cell (p := ⟨b, o, none⟩) hlt).trans hv
        · exact ((hw.trans hW.below).cell (p := ⟨b, o, none⟩) hlt).trans hv
      exact fun W' hW => ⟨hc W' hW _ _ h1, hc W' hW _ _ h2, hc W' hW _ _ h4⟩
    · rw [if_neg (by omega)]
      exact ⟨b, off + 3, rfl, h9⟩
  · cases e1
    refine ⟨R, 0, 1, sa, sc, ka, kcap, rfl, by simp [Fo.len], by omega, ?_, fun gg cur hgg _ e => by subst e; rw [e3] at hgg; simp at hgg, e4, ⟨by simp [Fo.len], by omega, fun e => (by split at e <;> cases e), fun hr => (by simp [Fo.len] at hr)⟩, e5⟩
    intro W' hW
    have : W'.heap[R]? = some (.cells #[.int .i64 h.k, .slice sa h.set.length sc, .slice ka kids.len kcap] 45 (0, 0)) := by
      rcases hW with rfl | hW
      · exact e3
      · exact hW.same R _ _ _ e3 (by decide)
    simp [World.cell?, this]

set_option maxRecDepth 100000 in
set_option maxHeartbeats 400000 in
theorem all_any (v : Array Value) (hv : v.size = 3) (w : World) :
    Calls Try.prog 79 #[.agg v, inV] w fun e w' => e = .returned (.func (.func 86) #[] #[.pointer (some ⟨w.heap.size, 0, none⟩), .pointer (some ⟨w.heap.size + 1, 0, none⟩)]) ∧ w' = (w.alloc (.cells v 45)).alloc (.cells #[inV] 125) := by
  obtain ⟨l⟩ := v
  obtain ⟨x0, x1, x2, rfl⟩ : ∃ x0 x1 x2, l = [x0, x1, x2] := by
    match l, hv with
    | [x0, x1, x2], _ => exact ⟨_, _, _, rfl⟩
  go_enter Try.func79, Try.ntmps79
  go_wp2
  go_ret
  exact ⟨rfl, rfl⟩

/-- An expression's list. -/
theorem items_any (h : Hd) (sa : Option Addr) (sc : Nat) (a : Option Addr) (len cap : Nat) (w : World) :
    Calls Try.prog 80 #[itemV h sa sc a len cap] w fun e w' => e = .returned (.slice a len cap) ∧ w' = w.alloc (.cells #[.int .i64 h.k, .slice sa h.set.length sc, .slice a len cap] 45) := by
  obtain ⟨k, set⟩ := h
  go_enter Try.func80, Try.ntmps80
  go_wp2
  go_ret
  exact ⟨rfl, rfl⟩

/-- An append whose run is known, as a step of a region that draws its order. -/
theorem step_append_run {P : Program} {ops : Array Oper} {o : Oper} {a : Act} {w : World} {K : Act → World → Prop} {Q : Exit → Act → World → Prop} {E : Prop} (hgd : o.guard = none) (s x : Operand) (t t2 : TypeId)
    (hop : o.op = Op.call { callee := Callee.builtin Builtin.append, args := #[s, x], argTypes := #[t, t2] }) (vs vx v' : Value) (w' : World) (hs : a.eval s = vs) (hx : a.eval x = vx)
    (hrun : (Builtin.append_ #[t, t2] o.type #[vs, vx]).run P w = .ok v' w') (h : K (a.put o.dst v') w') :
    if Region.wanted o (yielded ops a.tmps) = true then Oper.wp P o a w K Q else E := by
  have hw : Region.wanted o (yielded ops a.tmps) = true := by simp [Region.wanted, hgd]
  rw [if_pos hw]
  unfold Oper.wp
  simp [execOp, hop, resolve, invoke, builtin, hs, hx, hrun, Result.andThen]
  exact h

theorem info_items : (Try.prog.info? 42).map (fun i => (i.zero, i.size, i.bytes)) = some (some (.slice none 0 0), 1, 24) := by kernel_rfl

theorem new_cell (W : World) (v : Value) (t : TypeId) : ∀ j u, [v][j]? = some u → (W.alloc (.cells #[v] t)).cell? ((⟨W.heap.size, 0, none⟩ : Addr).add j) = some u := by
  intro j u h
  have hj : j = 0 := by
    rcases j with _ | j
    · rfl
    · simp at h
  subst hj
  simp only [List.getElem?_cons_zero, Option.some.injEq] at h
  subst h
  have := World.alloc_heap_new W (.cells #[v] t)
  show World.cell? _ ⟨W.heap.size, 0, none⟩ = _
  unfold World.cell?
  rw [show ((⟨W.heap.size, 0, none⟩ : Addr).block) = W.heap.size from rfl, this]
  simp

/-- A list is put onto the row of open lists. -/
theorem run_push (w : World) (ty : TypeId) {base n cap : Nat} {a : Option Addr} {row : List Value} (v : Value) (hv : v.oneCell' = true) (hown : w.ownsRow base 42 1 (.slice a n cap) n row) (hn : n + 1 ≤ 1099511627780) (hbase : base ≤ w.heap.size) :
    ∃ a' cap' w', (Builtin.append_ #[134, 134] ty #[.slice a n cap, .slice (some ⟨w.heap.size, 0, none⟩) 1 1]).run Try.prog (w.alloc (.cells #[v] 42)) = .ok (.slice a' (n + 1) cap') w' ∧
      w'.ownsRow base 42 1 (.slice a' (n + 1) cap') (n + 1) (row ++ [v]) ∧ w.grownBy w' (Value.slice a n cap).ownBlock := by
  obtain ⟨i0, hi, hz0, hz1, hz2⟩ := info_parts info_items
  obtain ⟨v', w', hrun, ho, hg, _⟩ := run_append_own (P := Try.prog) (w.alloc (.cells #[v] 42)) base 134 ty 42 i0 (.slice none 0 0) 1 24 Try.underlying134 hi hz0 hz1 hz2 rfl (by decide) _ n _ (hown.alloc _) ⟨w.heap.size, 0, none⟩ 1 1 [v] rfl (new_cell w v _) (by simpa using hv) (by unfold maxLen; omega) (by omega) (by simp; omega)
  obtain ⟨a', cap', rfl⟩ := slice_of_own ho
  exact ⟨a', cap', w', hrun, ho, grownBy_trans (World.grownBy_alloc w _ _) hg (fun i e => .inl e)⟩

/-- What holds at the head of each round. -/
def AllInv (Bi : Nat) (w0 W : World) (J : List Nx → World → Prop) (all : List Nd) (k : Nat) (o : Value) (wr : World) : Prop :=
  ∃ (fs : List Fo) (vs : List Value) (a : Option Addr) (cap : Nat) (pre : List Nx), k = steps fs ∧ o = .slice a fs.length cap ∧ wr.ownsRow W.heap.size 42 1 (.slice a fs.length cap) fs.length vs.reverse ∧
    Stk w0 wr W.heap.size fs vs ∧ J pre wr ∧ pre.map (·.nd) ++ rem fs = all ∧ fs.length ≤ pre.length + 1 ∧ Below w0.heap.size w0 wr ∧ wr.heap[Bi]? = some (.cells #[inV] 125 (0, 0)) ∧ (∀ x ∈ pre, Sps w0 x.sa x.sc x.nd.h.set)

/-- The invariant behind a round that has gone on. -/
theorem allInv_next {Bi : Nat} {w0 W wr W3 w1 : World} {J : List Nx → World → Prop} {all : List Nd} {pre : List Nx} {h' : Hd} {kids' rest : Fo} {fs : List Fo} {vs : List Value} {g cap2 : Nat} {cur : Array Value} {ka' A2 : Option Addr} {kcap' : Nat} {x : Nx} {v' : Value} {row : List Value}
    (hvl : vs.length = fs.length) (hall : pre.map (·.nd) ++ rem (.cons h' kids' rest :: fs) = all) (hst : Stk w0 wr W.heap.size fs vs) (hbl : Below w0.heap.size w0 wr) (hs3 : Spares w0.heap.size itT wr W3)
    (hgc3 : W3.heap[g]? = some (.cells cur 42 (0, 0))) (hgb : W.heap.size ≤ g) (hz : w0.heap.size ≤ W.heap.size) (hj3 : J (pre ++ [x]) W3) (hJ : Bears W.heap.size itT J) (hg : W3.grownBy w1 (some g))
    (hkk : Items w0 ka' kcap' kids') (hrr : Items w0 A2 (cap2 - 1) rest) (hx : x.nd = ⟨fs.length + 1, h', kids'.len⟩)
    (hrow : row = (vs.reverse ++ [.slice A2 rest.len (cap2 - 1)]) ++ [.slice ka' kids'.len kcap'])
    {a : Option Addr} {cap : Nat} (hv : v' = .slice a (fs.length + 1 + 1) cap) (hown : w1.ownsRow W.heap.size 42 1 v' (fs.length + 1 + 1) row) (hlen : fs.length + 1 ≤ pre.length + 1)
    (hBi : wr.heap[Bi]? = some (.cells #[inV] 125 (0, 0))) (hsp : ∀ y ∈ pre ++ [x], Sps w0 y.sa y.sc y.nd.h.set) :
    AllInv Bi w0 W J all (steps (kids' :: rest :: fs)) v' w1 := by
  subst hv
  have hroot : ∀ (cs : Array Value), wr.heap[W.heap.size]? = some (.cells cs 45 (0, 0)) → w1.heap[W.heap.size]? = some (.cells cs 45 (0, 0)) := by
    intro cs hcs
    have h3 := hs3.same _ cs _ _ hcs (by decide)
    refine (hg.block _ (Array.getElem?_eq_some_iff.1 h3).1 (fun e => ?_)).trans h3
    cases e
    rw [hgc3] at h3
    simp at h3
  refine ⟨kids' :: rest :: fs, .slice ka' kids'.len kcap' :: .slice A2 rest.len (cap2 - 1) :: vs, a, cap, pre ++ [x], rfl, rfl, ?_, ⟨.inl ⟨_, _, rfl, hkk⟩, .inl ⟨_, _, rfl, hrr⟩, Stk.turn hroot _ _ hst⟩, ?_, ?_, ?_, ?_, ?_, hsp⟩
  · rw [hrow] at hown; simpa using hown
  · exact hJ _ W3 w1 (some g) hj3 hg (fun r e => by cases e; exact ⟨hgb, _, hgc3, .inr ⟨_, _, _, rfl, by decide⟩⟩)
  · rw [← hall]; simp [rem, Fo.pre, hx]
  · simp; omega
  · exact hbl.trans (hs3.below.trans ((Below.refl _ W3).grown hg (Nat.le_trans hbl.size hs3.below.size) (fun k e => by cases e; omega)))
  · have h3 := hs3.same _ _ _ _ hBi (by decide)
    refine (hg.block _ (Array.getElem?_eq_some_iff.1 h3).1 (fun e => ?_)).trans h3
    cases e
    rw [hgc3] at h3
    simp at h3

set_option maxRecDepth 100000 in
set_option maxHeartbeats 1000000 in
theorem all1_in (w0 W : World) (Bs Bi : Nat) (h : Hd) (kids : Fo) (sa : Option Addr) (sc : Nat) (ka : Option Addr) (kcap : Nat) (hss : Sps w0 sa sc h.set) (hk : Items w0 ka kcap kids) (hW0 : Below w0.heap.size w0 W)
    (hN : kids.size ≤ 1099511627776)
    (c0 : W.cell? ⟨Bs, 0, none⟩ = some (.int .i64 h.k)) (c1 : W.cell? ⟨Bs, 1, none⟩ = some (.slice sa h.set.length sc)) (c2 : W.cell? ⟨Bs, 2, none⟩ = some (.slice ka kids.len kcap))
    (hi0 : W.heap[Bi]? = some (.cells #[inV] 125 (0, 0)))
    (l : Nat) (J Jx : List Nx → World → Prop) (hJ : Bears W.heap.size itT J) (hJx : Bears W.heap.size itT Jx)
    (hY : ∀ pre x W1, J pre W1 → Good w0 (Fo.pre 1 (.cons h kids .nil)) (pre ++ [x]) → YieldAt Fence.wide 0 Try.prog l (encs x) W1 fun e W' =>
      (e = .returned (.bool true) ∧ J (pre ++ [x]) W' ∧ Spares w0.heap.size itT W1 W') ∨ (e = .returned (.bool false) ∧ Jx (pre ++ [x]) W'))
    (h0 : J [] W) :
    CallsIn Fence.wide 0 Try.prog 86 #[.func (.yield l) #[] #[], .pointer (some ⟨Bs, 0, none⟩), .pointer (some ⟨Bi, 0, none⟩)] W fun e W' => (∃ v, e = .returned v) ∧ ((∃ xs, Full (Fo.pre 1 (.cons h kids .nil)) xs ∧ J xs W') ∨ (∃ pre, Good w0 (Fo.pre 1 (.cons h kids .nil)) pre ∧ Jx pre W')) := by
  refine callsIn_of_wp Try.func86 rfl trivial ?_ rfl
  simp only [Try.ntmps86, List.size_toArray, List.length_cons, List.length_nil, Nat.reduceAdd, Nat.reduceSub, Array.replicate_succ, Array.replicate_zero, List.push_toArray, List.append_toArray, List.nil_append, List.cons_append]
  gi_wp2_with (fail)
  have hz := hW0.size
  have hBiW : Bi < W.heap.size := (Array.getElem?_eq_some_iff.1 hi0).1
  gi_loopg [4] (steps [.cons h kids .nil]) (fun k o wr => AllInv Bi w0 W J (Fo.pre 1 (.cons h kids .nil)) k o wr)
  case atStart =>
    have hR := Below.heap_alloc (W.alloc (.cells #[.int .i64 h.k, .slice sa h.set.length sc, .slice ka kids.len kcap] 45)) (.cells #[.slice (some ⟨W.heap.size, 0, none⟩) 1 1] 42) W.heap.size (by simp)
    refine ⟨[.cons h kids .nil], [.slice (some ⟨W.heap.size, 0, none⟩) 1 1], _, 1, [], rfl, rfl, ?_, ⟨.inr ⟨h, kids, sa, sc, ka, kcap, rfl, rfl, ?_, hk, hss⟩, trivial⟩, hJ.alloc _ (hJ.alloc _ h0), by simp [rem], by simp, ?_, ?_, by simp⟩
    · have := World.ownsRow_lit (base := W.heap.size) (e := 42) (size := 1) (W.alloc (.cells #[.int .i64 h.k, .slice sa h.set.length sc, .slice ka kids.len kcap] 45)) #[.slice (some ⟨W.heap.size, 0, none⟩) 1 1] 1 (by simp) (by unfold maxLen; omega) rfl
      simpa using this
    · rw [hR]; exact World.alloc_heap_new W _
    · exact hW0.trans ((((Below.refl _ W).alloc (Nat.le_refl _) _).alloc (by simp) _).mono hz)
    · exact (Below.heap_alloc _ _ _ (by simp; omega)).trans ((Below.heap_alloc _ _ _ hBiW).trans hi0)
  case round =>
    obtain ⟨fs, vs, a, cap, pre, rfl, rfl, hown, hst, hj, hall, hlen, hbl, hBi, hsp⟩ := hrel
    cases fs with
    | nil =>
      gi_wp2
      go_end0
      exact ⟨⟨_, rfl⟩, .inl ⟨pre, by simpa [rem, Full] using hall, hj⟩⟩
    | cons f fs =>
      cases vs with
      | nil => exact hst.elim
      | cons v vs =>
      simp only [List.length_cons] at hown hlen ⊢
      have hvl := hst.2.length
      obtain ⟨g, cap', e⟩ := ownsRow_succ hown
      simp only [Value.slice.injEq, true_and] at e
      obtain ⟨rfl, rfl⟩ := e
      have hrow := hown
      rw [List.reverse_cons] at hrow
      have hcell : wr.cell? ⟨g, fs.length, none⟩ = some v := by
        rw [hrow.cellAt fs.length (by omega), List.getElem?_append_right (by rw [List.length_reverse, hvl]; exact Nat.le_refl _)]
        simp [hvl]
      have hfro := hrow.frozenAt fs.length
      have hcapm : fs.length + 1 ≤ cap ∧ cap ≤ 9223372036854775807 := by
        rcases hrow.2 with ⟨e, _⟩ | ⟨g', cap', cur, e, _, _, h1, h2, _⟩
        · cases e
        · simp only [Value.slice.injEq, true_and] at e
          obtain ⟨-, rfl⟩ := e
          exact ⟨h1, by unfold maxLen at h2; omega⟩
      obtain ⟨hc1, hc2⟩ := hcapm
      cases f with
      | nil =>
        obtain ⟨a2, cap2, rfl⟩ : ∃ a2 cap2, v = .slice a2 0 cap2 := by
          rcases hst.1 with ⟨a2, cap2, e, _⟩ | ⟨_, _, _, _, _, _, e, _⟩
          · exact ⟨a2, cap2, e⟩
          · cases e
        have hpop := ownsRow_pop (n := fs.length) (by simp [hvl]) hrow
        have Hlen := Lib.hid hlen
        have Hvl := Lib.hid hvl
        have HBi := Lib.hid hBi
        have HSp := Lib.hid hsp
        clear hrow hown hvl hBi hsp
        gi_wp2
        gi_roundg (steps fs)
        case measure => simp [steps]
        case rel => exact ⟨fs, vs, some ⟨g, 0, none⟩, cap, pre, rfl, by simp, hpop, hst.2, hj, by simpa [rem, Fo.pre] using hall, by have := Hlen.out; omega, hbl, HBi.out, HSp.out⟩
      | cons h' kids' rest =>
        obtain ⟨b, off, cap2, sa', sc', ka', kcap', rfl, hle2, hmx2, hcells, hbg, hkk, hrr, hss'⟩ := Ent.first hbl rfl hst.1
        obtain ⟨q0, q1, q2⟩ := hcells wr (.inl rfl)
        have hgood : Good w0 (Fo.pre 1 (.cons h kids .nil)) (pre ++ [⟨⟨fs.length + 1, h', kids'.len⟩, sa', sc', ka', kcap'⟩]) :=
          ⟨⟨kids'.pre (fs.length + 1 + 1) ++ rest.pre (fs.length + 1) ++ rem fs, by rw [← hall]; simp [rem, Fo.pre]⟩, fun y hy => by
            rcases List.mem_append.1 hy with hy | hy
            · exact hsp y hy
            · simp only [List.mem_singleton] at hy
              subst hy
              exact hss'⟩
        have hdeep : pre.length + 1 ≤ kids.size + 1 := by
          obtain ⟨⟨r, hr⟩, _⟩ := hgood
          have := congrArg List.length hr
          simp [Fo.pre_length, Fo.size] at this
          omega
        obtain ⟨fn, tmps, assign, body, hy, hR⟩ := hY pre _ wr hj hgood
        dsimp only [encs, itemV] at hy
        rw [show ((fs.length + 1 : Nat) : Int) = (fs.length : Int) + 1 from rfl] at hy
        have Hlen := Lib.hid hlen
        have Hvl := Lib.hid hvl
        have HBi := Lib.hid hBi
        have hg0 : W.heap.size ≤ g ∧ ∃ cur, wr.heap[g]? = some (.cells cur 42 (0, 0)) := by
          rcases hrow.2 with ⟨e, _⟩ | ⟨g', cap', cur, e, hb, h1, _⟩
          · cases e
          · cases e; exact ⟨hb, cur, h1⟩
        obtain ⟨hgb, cur, hgc⟩ := hg0
        have hbg' : ¬ b = g := hbg g cur hgc (by omega)
        have hgb' : ¬ g = b := fun e => hbg' e.symm
        have hvl' := hvl
        clear hvl hlen hbg hBi hsp
        have hcase : ∃ A2, Items w0 A2 (cap2 - 1) rest ∧ ((cap2 = 1 ∧ A2 = some ⟨b, off, none⟩) ∨ (¬ cap2 = 1 ∧ A2 = some ⟨b, off + 3, none⟩)) := by
          by_cases hc : cap2 = 1
          · rw [if_pos hc] at hrr; exact ⟨_, hrr, .inl ⟨hc, rfl⟩⟩
          · rw [if_neg hc] at hrr; exact ⟨_, hrr, .inr ⟨hc, rfl⟩⟩
        clear hrr
        gi_wp2_with (fail)
        refine ⟨rfl, hR.mono ?_⟩
        rintro e W3 (⟨rfl, hj3, hs3⟩ | ⟨rfl, hjx⟩)
        · have hown3 : W3.ownsRow W.heap.size 42 1 (.slice (some ⟨g, 0, none⟩) (fs.length + 1) cap) (fs.length + 1) (vs.reverse ++ [.slice (some ⟨b, off, none⟩) (rest.len + 1) cap2]) := by
            rcases hrow.2 with ⟨e, _⟩ | ⟨g', cap', cur, e, hb, h1, r⟩
            · cases e
            · cases e; exact ⟨hrow.1, .inr ⟨g, cap, cur, rfl, hb, hs3.same g cur _ _ h1 (by decide), r⟩⟩
          have hgc3 := hs3.same g cur _ _ hgc (by decide)
          have hBi3 := hs3.same Bi _ _ _ HBi.out (by decide)
          have hBig : ¬ Bi = g := by
            rintro rfl
            rw [hgc3] at hBi3
            simp at hBi3
          have hcell3 : W3.cell? ⟨g, fs.length, none⟩ = some (.slice (some ⟨b, off, none⟩) (rest.len + 1) cap2) := by
            have := Hvl.out
            rw [hown3.cellAt fs.length (by omega), List.getElem?_append_right (by rw [List.length_reverse, this]; exact Nat.le_refl _)]
            simp [this]
          have hfro3 := hown3.frozenAt fs.length
          obtain ⟨p0, p1, p2⟩ := hcells W3 (.inr hs3)
          have hst2 := hst.2
          clear hown hrow hcell hfro q0 q1 q2 hgc hy hR hcells hj hst h0
          have hN' := hN
          have hkeep : ∀ A2, ∃ w5, W3.setCell ⟨g, fs.length, none⟩ (.slice A2 rest.len (cap2 - 1)) = w5 ∧ w5.ownsRow W.heap.size 42 1 (.slice (some ⟨g, 0, none⟩) (fs.length + 1) cap) (fs.length + 1) (vs.reverse ++ [.slice A2 rest.len (cap2 - 1)]) ∧ W3.grownBy w5 (some g) ∧
              w5.cell? ⟨b, off, none⟩ = some (.int .i64 h'.k) ∧ w5.cell? ⟨b, off + 1, none⟩ = some (.slice sa' h'.set.length sc') ∧ w5.cell? ⟨b, off + 2, none⟩ = some (.slice ka' kids'.len kcap') ∧ w5.cell? ⟨Bi, 0, none⟩ = some inV := by
            intro A2
            have hs := hown3.stored fs.length (.slice A2 rest.len (cap2 - 1))
            refine ⟨_, rfl, ?_, hs.2, ?_⟩
            · have := hs.1
              have hv := Hvl.out
              rw [List.set_append_right _ _ (by simp [hv])] at this
              simpa [hv] using this
            · have hc : ∀ (B o : Nat) (u : Value), ¬ B = g → W3.cell? ⟨B, o, none⟩ = some u → (W3.setCell ⟨g, fs.length, none⟩ (.slice A2 rest.len (cap2 - 1))).cell? ⟨B, o, none⟩ = some u :=
                fun B o u hB hu => by
                  have := hs.2.block B (World.block_lt_of_cell? W3 _ hu) (by simpa using hB)
                  simp only [World.cell?] at hu ⊢
                  rw [this]; exact hu
              exact ⟨hc _ _ _ hbg' p0, hc _ _ _ hbg' p1, hc _ _ _ hbg' p2, hc _ _ _ hBig (by simp [World.cell?, hBi3])⟩
          rcases hcase with ⟨A2, hrr, hA⟩
          obtain ⟨w5, e5, hown5, hg5, x0, x1, x2, xi⟩ := hkeep A2
          clear hkeep
          have hsz5 : W.heap.size ≤ w5.heap.size := by
            have h1 := (Array.getElem?_eq_some_iff.1 hgc3).1
            have h2 := hg5.size
            omega
          have hrun5 := fun (w4 : World) (h4 : w4 = w5.drew.alloc (.cells #[.int .i64 h'.k, .slice sa' h'.set.length sc', .slice ka' kids'.len kcap'] 45)) =>
            run_push w4 134 (.slice ka' kids'.len kcap') (by simp [Value.oneCell']) (h4 ▸ (hown5.drew.alloc _)) (by have := Hlen.out; omega) (by rw [h4]; simp; omega)
          have HE := Lib.hid e5
          clear e5
          rcases hA with ⟨rfl, rfl⟩ | ⟨hcap, rfl⟩
          · obtain rfl : rest = .nil := by cases rest with
              | nil => rfl
              | cons _ _ _ => simp [Fo.len] at hle2
            simp only [Fo.len, Nat.zero_add] at hown3 hcell3 hle2 HE hown5 hrun5 ⊢
            gi_wp2_with (fail)
            rw [HE.out]
            refine wpIn_wide.2 ?_
            go_region_law (first | (refine step_append_run rfl (.tmp 40) (.tmp 46) 134 134 rfl _ _ _ _ rfl rfl Hr5.out ?_) | (go_simp; go_at_call 80; (with_reducible refine (items_any h' sa' sc' ka' kids'.len kcap' w5.drew).mono ?_); rintro e w4 ⟨rfl, hw4⟩; obtain ⟨a6, c6, w6, hrun6, hown6, hg6⟩ := hrun5 w4 hw4; have hg46 : w5.grownBy w6 (some g) := grownBy_trans (grownBy_trans (grownBy_drew w5 _) (hw4 ▸ World.grownBy_alloc _ _ (some g)) (fun i e => .inl e)) hg6 (fun i e => .inl e); have Hr5 := Lib.hid hrun6; have Hown6 := Lib.hid hown6; clear hrun6 hw4 hown6 hg6))
            all_goals
              have hg13 : W3.grownBy w6 (some g) := grownBy_trans hg5 hg46 (fun i e => .inl e)
              refine ‹∀ (a' : Act) (w' : World), Handed _ _ a' w' → _› _ _ ?_
              gi_roundg (steps (kids' :: .nil :: fs))
              case measure => simp [steps, Fo.size]; omega
              case rel => exact allInv_next (cap2 := 1) hvl' hall hst2 hbl hs3 hgc3 hgb hz hj3 hJ hg13 hkk hrr rfl (by simp [Fo.len, hvl']) rfl Hown6.out Hlen.out HBi.out hgood.2
          · gi_wp2_with (fail)
            rw [HE.out]
            refine wpIn_wide.2 ?_
            go_region_law (first | (refine step_append_run rfl (.tmp 40) (.tmp 46) 134 134 rfl _ _ _ _ rfl rfl Hr5.out ?_) | (go_simp; go_at_call 80; (with_reducible refine (items_any h' sa' sc' ka' kids'.len kcap' w5.drew).mono ?_); rintro e w4 ⟨rfl, hw4⟩; obtain ⟨a6, c6, w6, hrun6, hown6, hg6⟩ := hrun5 w4 hw4; have hg46 : w5.grownBy w6 (some g) := grownBy_trans (grownBy_trans (grownBy_drew w5 _) (hw4 ▸ World.grownBy_alloc _ _ (some g)) (fun i e => .inl e)) hg6 (fun i e => .inl e); have Hr5 := Lib.hid hrun6; have Hown6 := Lib.hid hown6; clear hrun6 hw4 hown6 hg6))
            all_goals
              have hg13 : W3.grownBy w6 (some g) := grownBy_trans hg5 hg46 (fun i e => .inl e)
              refine ‹∀ (a' : Act) (w' : World), Handed _ _ a' w' → _› _ _ ?_
              gi_roundg (steps (kids' :: rest :: fs))
              case measure => simp [steps, Fo.size]; omega
              case rel => exact allInv_next (cap2 := cap2) hvl' hall hst2 hbl hs3 hgc3 hgb hz hj3 hJ hg13 hkk hrr rfl (by simp [hvl']) rfl Hown6.out Hlen.out HBi.out hgood.2
        · gi_wp2
          refine bodyPost_ret (results_none rfl _ _ _) rfl ?_
          exact ⟨⟨_, rfl⟩, .inr ⟨_, hgood, hjx⟩⟩
end Go.Proofs.Ytngbfjimmdkfeaa

namespace Go.Proofs.Ytngbfjimmdkfeaa
open Go.RowKit

/-- The span at i is none that is empty, and begins at least two above the end of the one ahead of it. -/
def okAt (l : List Sp) (i : Nat) : Bool := match l[i]? with
  | none => true
  | some s => decide (s.lo.toNat ≤ s.hi.toNat) && (match i with
    | 0 => true
    | j + 1 => match l[j]? with
      | none => true
      | some p => decide (p.hi.toNat + 2 ≤ s.lo.toNat))
def ordK (l : List Sp) (k : Nat) : Bool := (List.range k).all (okAt l)
def ordB (l : List Sp) : Bool := ordK l l.length
theorem ordK_succ (l : List Sp) (k : Nat) : ordK l (k + 1) = (ordK l k && okAt l k) := by simp [ordK, List.range_succ]
theorem ordK_false {l : List Sp} {k : Nat} (h : okAt l k = false) : ∀ m, k < m → ordK l m = false := by
  intro m
  induction m with
  | zero => intro h; omega
  | succ m ih =>
    intro hk
    rw [ordK_succ]
    by_cases e : k = m
    · subst e; rw [h, Bool.and_false]
    · rw [ih (by omega)]; rfl

theorem Below.drewN {B : Nat} {a w : World} (h : Below B a w) (n : Nat) : Below B a (w.drewN n) := ⟨h.os, h.tape, h.output, h.size, h.block⟩
theorem ret_bool {a b : Bool} (h : a = b) : Ending.returned (.bool a) = .returned (.bool b) := by rw [h]

set_option maxRecDepth 100000 in
set_option maxHeartbeats 1000000 in
theorem inOrder_any (a : Option Addr) (L cap : Nat) (l : List Sp) (w : World) (hs : Sps w a cap l) (hL : L = l.length) :
    Calls Try.prog 87 #[.slice a L cap] w fun e w' => e = .returned (.bool (ordB l)) ∧ Below w.heap.size w w' := by
  have hle := hs.le
  have hmx := hs.max
  rw [← hL] at hle
  have HL := Lib.hid hL
  clear hL
  obtain ⟨R, HR⟩ : ∃ R, Hid (ordB l = R) := ⟨_, Lib.hid rfl⟩
  rw [HR.out]
  go_enter Try.func87, Try.ntmps87
  go_wp2_with (fail)
  go_loopw [7] (fun iv wr => ∃ k : Nat, k ≤ L ∧ iv = .int .i64 (k : Int) ∧ ordK l k = true ∧ Below w.heap.size w wr) (fun i _ => L - (intOf i).toNat)
  case atStart => exact ⟨0, by omega, rfl, rfl, Below.refl _ w⟩
  case round =>
    obtain ⟨k, hk, rfl, hord, hbr⟩ := hrel
    have HO := Lib.hid hord
    clear hord
    by_cases hlt : k < L
    · have hlt' : k < l.length := by rw [← HL.out]; exact hlt
      have hsr := hs.grown hbr
      obtain ⟨b, off, rfl⟩ := hs.at_ k hlt'
      obtain ⟨c0, c1⟩ := hsr.cell b off rfl k hlt'
      obtain ⟨s, HS⟩ : ∃ s, Hid (l[k] = s) := ⟨_, Lib.hid rfl⟩
      rw [HS.out] at c0 c1
      have hblt : b < wr.heap.size := World.block_lt_of_cell? wr _ c0
      have hbn : Below w.heap.size w (wr.alloc (.cells #[.int .u8 (s.lo.toNat : Int), .int .u8 (s.hi.toNat : Int)] 55)) := hbr.alloc hbr.size _
      have hget : Hid (l[k]? = some s) := Lib.hid (by rw [List.getElem?_eq_getElem hlt', HS.out])
      cases k with
      | zero =>
        rw [Nat.zero_mul, Nat.add_zero] at c0 c1
        rw [show ((0 : Nat) : Int) = 0 from rfl]
        have hok : Hid (okAt l 0 = decide (s.lo.toNat ≤ s.hi.toNat)) := Lib.hid (by simp [okAt, hget.out])
        by_cases h1 : s.hi.toNat < s.lo.toNat
        · have h1' : ((s.hi.toNat : Int) < (s.lo.toNat : Int)) := by omega
          have hR : Hid (R = false) := Lib.hid (by rw [← HR.out]; exact ordK_false (k := 0) (by rw [hok.out]; exact decide_eq_false (by omega)) _ hlt')
          clear hs hsr hbr
          go_wp2_with (fail)
          go_quiet (fail)
          go_wp2_with (fail)
          exact bodyPost_ret (v := .bool false) (by simp [results, Try.results87, go_sem]; try rfl) rfl ⟨ret_bool hR.out.symm, Below.drewN hbn _⟩
        · have h1' : ¬ ((s.hi.toNat : Int) < (s.lo.toNat : Int)) := by omega
          have hO2 : Hid (ordK l 1 = true) := Lib.hid (by rw [ordK_succ, HO.out, hok.out]; simp; omega)
          clear hs hsr hbr
          go_wp2_with (fail)
          go_quiet (fail)
          go_wp2_with (fail)
          exact ⟨⟨1, by omega, rfl, hO2.out, Below.drewN hbn _⟩, by simp [intOf]; omega⟩
      | succ j =>
        have hj : j < l.length := by omega
        obtain ⟨p0, p1⟩ := hsr.cell b off rfl j hj
        obtain ⟨q, HQ⟩ : ∃ q, Hid (l[j] = q) := ⟨_, Lib.hid rfl⟩
        rw [HQ.out] at p0 p1
        have hgq : Hid (l[j]? = some q) := Lib.hid (by rw [List.getElem?_eq_getElem hj, HQ.out])
        have hok : Hid (okAt l (j + 1) = (decide (s.lo.toNat ≤ s.hi.toNat) && decide (q.hi.toNat + 2 ≤ s.lo.toNat))) := Lib.hid (by simp [okAt, hget.out, hgq.out])
        have e1 : ((j + 1 : Nat) : Int) - 1 = (j : Int) := by omega
        have hu1 := s.lo.toNat_lt
        have hu2 := q.hi.toNat_lt
        by_cases h1 : s.hi.toNat < s.lo.toNat
        · have h1' : ((s.hi.toNat : Int) < (s.lo.toNat : Int)) := by omega
          have hR : Hid (R = false) := Lib.hid (by rw [← HR.out]; exact ordK_false (k := j + 1) (by rw [hok.out, decide_eq_false (by omega)]; rfl) _ hlt')
          clear hs hsr hbr
          go_wp2_with (fail)
          go_quiet (fail)
          go_wp2_with (fail)
          exact bodyPost_ret (v := .bool false) (by simp [results, Try.results87, go_sem]; try rfl) rfl ⟨ret_bool hR.out.symm, Below.drewN hbn _⟩
        · have h1' : ¬ ((s.hi.toNat : Int) < (s.lo.toNat : Int)) := by omega
          by_cases h2 : s.lo.toNat < q.hi.toNat + 2
          · have h2' : ((s.lo.toNat : Int) < (q.hi.toNat : Int) + 2) := by omega
            have hR : Hid (R = false) := Lib.hid (by rw [← HR.out]; exact ordK_false (k := j + 1) (by rw [hok.out, decide_eq_false (p := _ + 2 ≤ _) (by omega), Bool.and_false]) _ hlt')
            clear hs hsr hbr
            go_wp2_with (fail)
            go_quiet (fail)
            go_wp2_with (fail)
            exact bodyPost_ret (v := .bool false) (by simp [results, Try.results87, go_sem]; try rfl) rfl ⟨ret_bool hR.out.symm, Below.drewN hbn _⟩
          · have h2' : ¬ ((s.lo.toNat : Int) < (q.hi.toNat : Int) + 2) := by omega
            have hO2 : Hid (ordK l (j + 1 + 1) = true) := Lib.hid (by rw [ordK_succ, HO.out, hok.out]; simp; omega)
            clear hs hsr hbr
            go_wp2_with (fail)
            go_quiet (fail)
            go_wp2_with (fail)
            exact ⟨⟨j + 2, by omega, by simp; omega, hO2.out, Below.drewN hbn _⟩, by simp [intOf]; omega⟩
    · obtain rfl : k = L := by omega
      have hR : Hid (R = true) := Lib.hid (by rw [← HR.out]; unfold ordB; rw [← HL.out]; exact HO.out)
      clear hs
      go_wp2_with (fail)
      exact bodyPost_ret (v := .bool true) (by simp [results, Try.results87, go_sem]; try rfl) rfl ⟨ret_bool hR.out.symm, hbr⟩
end Go.Proofs.Ytngbfjimmdkfeaa

namespace Go.Proofs.Ytngbfjimmdkfeaa
open Go.RowKit Go.Shelf

attribute [local go_sem] Oper.semAt_some

/-- Whether an expression has just what its kind has. -/
def plainB (h : Hd) (len : Nat) : Bool :=
  if h.k == 1 then h.set.length == 0 && ((len : Int) == 0)
  else if h.k == 2 then decide (0 < h.set.length) && ordB h.set && ((len : Int) == 0)
  else if h.k == 3 || h.k == 4 then h.set.length == 0 && decide ((2 : Int) ≤ (len : Int))
  else if h.k == 5 || h.k == 6 || h.k == 7 then h.set.length == 0 && ((len : Int) == 1)
  else false

set_option maxRecDepth 100000 in
set_option maxHeartbeats 1000000 in
theorem plain_any (h : Hd) (sa : Option Addr) (sc : Nat) (a : Option Addr) (len cap : Nat) (w : World) (hs : Sps w sa sc h.set) :
    Calls Try.prog 81 #[itemV h sa sc a len cap] w fun e w' => e = .returned (.bool (plainB h len)) ∧ Below w.heap.size w w' := by
  obtain ⟨k, set⟩ := h
  dsimp only [itemV] at hs ⊢
  obtain ⟨n, hn⟩ : ∃ n, n = set.length := ⟨_, rfl⟩
  have HN := Lib.hid hn
  have hb1 : Below w.heap.size w (w.alloc (.cells #[.int .i64 k, .slice sa n sc, .slice a len cap] 45)) := (Below.refl _ w).alloc (Nat.le_refl _) _
  have hs1 := hs.grown hb1
  have hord := inOrder_any sa n sc set _ hs1 hn
  obtain ⟨R, HR⟩ : ∃ R, Hid (plainB ⟨k, set⟩ len = R) := ⟨_, Lib.hid rfl⟩
  rw [HR.out, ← HN.out]
  have h2 : Hid (k = 2 → 0 < n → R = (ordB set && ((len : Int) == 0))) := Lib.hid (by
    intro e hp
    rw [← HR.out]
    subst e
    rw [hn] at hp
    simp [plainB, hp])
  clear hn
  go_enter Try.func81, Try.ntmps81
  go_wp2_with (fail)
  case isTrue =>
    refine hord.mono ?_
    rintro e w' ⟨rfl, hb2⟩
    have hb3 := hb1.trans (hb2.mono hb1.size)
    have hR : Hid (R = (ordB set && ((len : Int) == 0))) := Lib.hid (h2.out (by simp_all) (by simp_all))
    generalize ordB set = o at hR
    have c2 : w'.cell? ⟨w.heap.size, 2, none⟩ = some (.slice a len cap) := by
      exact (hb2.cell (p := ⟨w.heap.size, 2, none⟩) (by simp)).trans (by simp)
    have hlt : w.heap.size < w'.heap.size := World.block_lt_of_cell? w' _ c2
    clear hb2 hord hs hs1
    cases o
    · go_wp2_with (fail)
      go_ret
      exact ⟨ret_bool (by rw [hR.out]; simp), hb3⟩
    · go_wp2_with (fail)
      go_ret
      exact ⟨ret_bool (by rw [hR.out]; simp), hb3⟩
  all_goals
    have hn := HN.out
    go_ret
    refine ⟨ret_bool ?_, (Below.refl _ w).alloc (Nat.le_refl _) _⟩
    rw [← HR.out]
    simp_all [plainB]
end Go.Proofs.Ytngbfjimmdkfeaa

namespace Go.Proofs.Ytngbfjimmdkfeaa
open Go.RowKit Go.Shelf

attribute [local go_sem] Oper.semAt_some

theorem all_walks (w0 w : World) (Bs Bi : Nat) (h : Hd) (kids : Fo) (sa : Option Addr) (sc : Nat) (ka : Option Addr) (kcap : Nat) (hss : Sps w0 sa sc h.set) (hk : Items w0 ka kcap kids) (hW0 : Below w0.heap.size w0 w) (hN : kids.size ≤ 1099511627776)
    (c0 : w.cell? ⟨Bs, 0, none⟩ = some (.int .i64 h.k)) (c1 : w.cell? ⟨Bs, 1, none⟩ = some (.slice sa h.set.length sc)) (c2 : w.cell? ⟨Bs, 2, none⟩ = some (.slice ka kids.len kcap))
    (hi0 : w.heap[Bi]? = some (.cells #[inV] 125 (0, 0))) :
    Walks Try.prog 86 #[.pointer (some ⟨Bs, 0, none⟩), .pointer (some ⟨Bi, 0, none⟩)] encs (Good w0 (Fo.pre 1 (.cons h kids .nil))) (Full (Fo.pre 1 (.cons h kids .nil))) w0.heap.size itT w := by
  intro l J Jx W hW hJ hJx hY h0
  have hB : Bs < w.heap.size := World.block_lt_of_cell? w _ c0
  have hc : ∀ o, W.cell? ⟨Bs, o, none⟩ = w.cell? ⟨Bs, o, none⟩ := fun o => hW.cell (p := ⟨Bs, o, none⟩) hB
  exact all1_in w0 W Bs Bi h kids sa sc ka kcap hss hk (hW0.trans (hW.mono hW0.size)) hN ((hc 0).trans c0) ((hc 1).trans c1) ((hc 2).trans c2) ((hW.block Bi (Array.getElem?_eq_some_iff.1 hi0).1).trans hi0) l J Jx hJ hJx hY h0

def checkE (all : List Nd) : Int :=
  if all.all (fun x => plainB x.h x.len) then (if all.all (fun x => decide (x.d ≤ 40)) then 0 else 3) else 1

/-- Between two rounds: nothing was found that may not be; the error so far. -/
def ChkI (w : World) (pre : List Nx) (W : World) : Prop :=
  Below w.heap.size w W ∧ (Boxed W (w.heap.size + 1) 28 (.int .i64 0) ∧ (Boxed W (w.heap.size + 1 + 1) 28 (.int .i64 (if pre.all (fun x => decide (x.nd.d ≤ 40)) then 0 else 3)) ∧ pre.all (fun x => plainB x.nd.h x.nd.len) = true))
/-- Behind a round that has found one that may not be. -/
def ChkX (w : World) (pre : List Nx) (W : World) : Prop :=
  Below w.heap.size w W ∧ (Boxed W (w.heap.size + 1) 28 (.int .i64 1) ∧ pre.all (fun x => plainB x.nd.h x.nd.len) = false)

set_option maxRecDepth 100000 in
set_option maxHeartbeats 400000 in
theorem rcheck_any (hh : Hd) (kids : Fo) (sa : Option Addr) (sc : Nat) (a : Option Addr) (cap : Nat) (w : World) (hss : Sps w sa sc hh.set) (hk : Items w a cap kids) (hN : kids.size ≤ 1099511627776) :
    Calls Try.prog 74 #[itemV hh sa sc a kids.len cap] w fun e w' => e = .returned (.int .i64 (checkE (Fo.pre 1 (.cons hh kids .nil)))) ∧ Below w.heap.size w w' := by
  refine (callsIn_wide (n := 0)).1 ?_
  refine callsIn_of_wp_marks Try.func74 rfl trivial ?_ rfl
  simp only [Try.ntmps74, List.size_toArray, List.length_cons, List.length_nil, Nat.reduceAdd, Nat.reduceSub, Array.replicate_succ, Array.replicate_zero, List.push_toArray, List.append_toArray, List.nil_append, List.cons_append]
  gi_wp2_with (fail)
  refine ⟨trivial, rfl, ((callsIn_wide (n := 0)).2 (all_any _ rfl _)).mono ?_⟩
  rintro e w' ⟨rfl, rfl⟩
  gi_wp2_with (fail)
  have hbel : Below w.heap.size w (((((w.alloc (.cells #[.int .i64 hh.k, .slice sa hh.set.length sc, .slice a kids.len cap] 45)).alloc (.cells #[.int .i64 0] 28)).alloc (.cells #[.int .i64 0] 28)).alloc (.cells #[.int .i64 hh.k, .slice sa hh.set.length sc, .slice a kids.len cap] 45)).alloc (.cells #[inV] 125)) :=
    (((((Below.refl _ w).alloc (Nat.le_refl _) _).alloc (by simp) _).alloc (by simp; omega) _).alloc (by simp; omega) _).alloc (by simp; omega) _
  have hB3 := (Blk.new (((w.alloc (.cells #[.int .i64 hh.k, .slice sa hh.set.length sc, .slice a kids.len cap] 45)).alloc (.cells #[.int .i64 0] 28)).alloc (.cells #[.int .i64 0] 28)) 45 #[.int .i64 hh.k, .slice sa hh.set.length sc, .slice a kids.len cap]).alloc (.cells #[inV] 125)
  have hBi := World.alloc_heap_new ((((w.alloc (.cells #[.int .i64 hh.k, .slice sa hh.set.length sc, .slice a kids.len cap] 45)).alloc (.cells #[.int .i64 0] 28)).alloc (.cells #[.int .i64 0] 28)).alloc (.cells #[.int .i64 hh.k, .slice sa hh.set.length sc, .slice a kids.len cap] 45)) (.cells #[inV] 125)
  rw [World.size_alloc, World.size_alloc, World.size_alloc, World.size_alloc] at hBi
  have hb1 : Boxed (((((w.alloc (.cells #[.int .i64 hh.k, .slice sa hh.set.length sc, .slice a kids.len cap] 45)).alloc (.cells #[.int .i64 0] 28)).alloc (.cells #[.int .i64 0] 28)).alloc (.cells #[.int .i64 hh.k, .slice sa hh.set.length sc, .slice a kids.len cap] 45)).alloc (.cells #[inV] 125)) (w.heap.size + 1) 28 (.int .i64 0) := by
    have := (Boxed.new (w.alloc (.cells #[.int .i64 hh.k, .slice sa hh.set.length sc, .slice a kids.len cap] 45)) 28 (.int .i64 0))
    rw [World.size_alloc] at this
    exact ((this.alloc _).alloc _).alloc _
  have hb2 : Boxed (((((w.alloc (.cells #[.int .i64 hh.k, .slice sa hh.set.length sc, .slice a kids.len cap] 45)).alloc (.cells #[.int .i64 0] 28)).alloc (.cells #[.int .i64 0] 28)).alloc (.cells #[.int .i64 hh.k, .slice sa hh.set.length sc, .slice a kids.len cap] 45)).alloc (.cells #[inV] 125)) (w.heap.size + 1 + 1) 28 (.int .i64 0) := by
    have := (Boxed.new ((w.alloc (.cells #[.int .i64 hh.k, .slice sa hh.set.length sc, .slice a kids.len cap] 45)).alloc (.cells #[.int .i64 0] 28)) 28 (.int .i64 0))
    rw [World.size_alloc, World.size_alloc] at this
    exact (this.alloc _).alloc _
  rw [World.size_alloc, World.size_alloc, World.size_alloc] at hB3
  have hws : (((((w.alloc (.cells #[.int .i64 hh.k, .slice sa hh.set.length sc, .slice a kids.len cap] 45)).alloc (.cells #[.int .i64 0] 28)).alloc (.cells #[.int .i64 0] 28)).alloc (.cells #[.int .i64 hh.k, .slice sa hh.set.length sc, .slice a kids.len cap] 45)).alloc (.cells #[inV] 125)).heap.size = w.heap.size + 1 + 1 + 1 + 1 + 1 := by simp
  generalize (((((w.alloc (.cells #[.int .i64 hh.k, .slice sa hh.set.length sc, .slice a kids.len cap] 45)).alloc (.cells #[.int .i64 0] 28)).alloc (.cells #[.int .i64 0] 28)).alloc (.cells #[.int .i64 hh.k, .slice sa hh.set.length sc, .slice a kids.len cap] 45)).alloc (.cells #[inV] 125)) = wl at hbel hB3 hBi hb1 hb2 hws ⊢
  have Hws := Lib.hid hws
  clear hws
  refine range_law (T := itT) (n₀ := w.heap.size) (encs := encs) (Good := Good w (Fo.pre 1 (.cons hh kids .nil))) (Full := Full (Fo.pre 1 (.cons hh kids .nil))) (gf := 86) (lb := #[.pointer (some ⟨w.heap.size + 1 + 1 + 1, 0, none⟩), .pointer (some ⟨w.heap.size + 1 + 1 + 1 + 1, 0, none⟩)]) rfl (enters_of Try.func86 (by kernel_rfl) rfl)
    hbel.size (all_walks w wl (w.heap.size + 1 + 1 + 1) (w.heap.size + 1 + 1 + 1 + 1) hh kids sa sc a cap hss hk hbel hN (hB3.cell 0) (hB3.cell 1) (hB3.cell 2) hBi) (fun _ => rfl)
    (ChkI w) (ChkX w)
    ?bI ?bIx ?h0 ?round ?done ?stop
  case bI => exact (bears_below hbel.size (Nat.le_refl _)).and ((bears_boxed _ _ _ (by decide) _).and ((bears_boxed _ _ _ (by decide) _).and (bears_pure _ _ _)))
  case bIx => exact (bears_below hbel.size (Nat.le_refl _)).and ((bears_boxed _ _ _ (by decide) _).and (bears_pure _ _ _))
  case h0 => exact ⟨hbel, hb1, by simpa using hb2, rfl⟩
  case round =>
    rintro l pre ⟨⟨d, hd, len⟩, xsa, xsc, xa, xcap⟩ W hl ⟨r, hr⟩ hI hgood
    have hsp : Sps w xsa xsc hd.set := hgood.2 _ (List.mem_append_right _ (List.mem_singleton.2 rfl))
    obtain ⟨hB, h1, h2, hp⟩ := hI
    have Hp := Lib.hid hp
    clear hp hgood
    dsimp only [encs, itemV]
    have hws : w.heap.size + 4 ≤ wl.heap.size := by have := Hws.out; omega
    have hlW : l < W.heap.size := (Array.getElem?_eq_some_iff.1 hr).1
    gi_wp2_with (fail)
    refine ⟨(KeepsOthers.alloc W _).from _, Spares.grown (World.grownBy_alloc W _ none) hB.size (fun r e => by cases e), fun W2 hg2 => ?_⟩
    have hx := (Blk.new W 45 #[.int .i64 hd.k, .slice xsa hd.set.length xsc, .slice xa len xcap]).kept hg2 (by simp; omega)
    have hb1 := (h1.alloc (.cells #[.int .i64 hd.k, .slice xsa hd.set.length xsc, .slice xa len xcap] 45)).kept hg2 (by simp; omega)
    have hb2 := (h2.alloc (.cells #[.int .i64 hd.k, .slice xsa hd.set.length xsc, .slice xa len xcap] 45)).kept hg2 (by simp; omega)
    have hB2 : Below w.heap.size w W2 := hB.trans (((Below.refl w.heap.size W).alloc hB.size _).grown hg2 (by have := hB.size; simp; omega) (fun k e => by cases e; omega))
    have x0 := hx.cell 0
    have x1 := hx.cell 1
    have x2 := hx.cell 2
    simp only [List.getElem?_cons_zero, List.getElem?_cons_succ] at x0 x1 x2
    clear hx h1 h2 hg2 hr hB hlW
    gi_wp2_with (fail)
    refine ⟨trivial, rfl, (CallsIn.inRound l ((callsIn_wide (n := 0)).2 (plain_any hd xsa xsc xa len xcap _ (hsp.grown hB2)))).mono ?_⟩
    rintro e W3 ⟨rfl, hbz⟩
    have hg3 : W2.grownBy W3 none := ⟨hbz.os, hbz.tape, hbz.output, hbz.size, fun k hk _ => hbz.block k hk⟩
    clear hbz
    have hc1 := hb1.kept hg3 (by simp)
    have hc2 := hb2.kept hg3 (by simp)
    have k1 := hc1.cell
    have k2 := hc2.cell
    have f1 := hc1.frozen
    have f2 := hc2.frozen
    have hs3 : Spares w.heap.size itT W2 W3 := Spares.grown hg3 hB2.size (fun r e => by cases e)
    have hk3 : KeepsFrom wl.heap.size W2 W3 := KeepsFrom.of_grownBy hg3 (fun r e => by cases e)
    have hB3' : Below w.heap.size w W3 := hB2.trans hs3.below
    clear x0 x1 x2 hb1 hb2 hg3
    by_cases hpl : plainB hd len = true
    · rw [hpl]
      by_cases hd40 : d ≤ 40
      · gi_wp2
        refine ⟨hk3, hs3, hB3', hc1, ?_, ?_⟩
        · rw [List.all_append]; simpa [hd40] using hc2
        · rw [List.all_append, Hp.out]; simp [hpl]
      · gi_wp2
        have hg4 := grownBy_set W3 (w.heap.size + 1 + 1) 0 (.int .i64 3)
        have hc4 := hc2.set (.int .i64 3)
        refine ⟨hk3.trans ((KeepsOthers.setCell W3 _ _).from _), hs3.trans (Spares.grown hg4 hB3'.size (fun r e => by cases e; exact ⟨by omega, fun cs t fr hcs => by rw [show W3.heap[w.heap.size + 1 + 1]? = _ from hc2] at hcs; cases hcs; decide⟩)), hB3'.setCell (p := ⟨w.heap.size + 1 + 1, 0, none⟩) (by simp; omega) _, hc1.kept hg4 (by simp), ?_, ?_⟩
        · rw [List.all_append]; simpa [hd40] using hc4
        · rw [List.all_append, Hp.out]; simp [hpl]
    · have hpl' : plainB hd len = false := by simpa using hpl
      rw [hpl']
      gi_wp2
      have hc4 := hc1.set (.int .i64 1)
      exact ⟨hk3.trans ((KeepsOthers.setCell W3 _ _).from _), hB3'.setCell (p := ⟨w.heap.size + 1, 0, none⟩) (by simp) _, hc4, by rw [List.all_append]; simp [hpl']⟩
  case done =>
    rintro D xs W hD hfull hI hK
    obtain ⟨hB, h1, h2, hp⟩ := hI
    have Hp := Lib.hid hp
    clear hp
    have hws : w.heap.size + 4 ≤ wl.heap.size := by have := Hws.out; omega
    have k1 := h1.cell
    have k2 := h2.cell
    have f1 := h1.frozen
    have f2 := h2.frozen
    have hres : checkE (Fo.pre 1 (.cons hh kids .nil)) = if xs.all (fun x => decide (x.nd.d ≤ 40)) then 0 else 3 := by
      unfold checkE
      rw [← (show _ = _ from hfull), List.all_map, List.all_map]
      rw [if_pos (by simpa [Function.comp_def] using Hp.out)]
      rfl
    have Hres := Lib.hid hres
    clear hres hfull
    generalize (if xs.all (fun x => decide (x.nd.d ≤ 40)) then (0 : Int) else 3) = E at k2 h2 Hres
    gi_wp2
    have hK' := (KeepsOthers.setCell W ⟨w.heap.size + 1, 0, none⟩ (.int .i64 E)).same D _ hK rfl
    refine ⟨by simp, .inl ⟨_, _, rfl, run_takeDeferred hK', ?_⟩⟩
    have hc5 := (h1.set (.int .i64 E)).kept (grownBy_putObj' _ D (.deferred none)) (by simp; omega)
    have hc6 := hc5.cell
    refine ⟨.int .i64 E, ?_, by rw [Hres.out], ?_⟩
    · simp [results, Try.f74, go_sem, hc6]
    · exact (hB.setCell (p := ⟨w.heap.size + 1, 0, none⟩) (by simp) _).trans ((Below.refl w.heap.size _).grown (grownBy_putObj' _ D (.deferred none)) (by have := hB.size; simp [World.setCell]; omega) (fun k e => by cases e; omega))
  case stop =>
    rintro D pre W hD hgood hI hK
    obtain ⟨hB, h1, hp⟩ := hI
    have hws : w.heap.size + 4 ≤ wl.heap.size := by have := Hws.out; omega
    have hres : checkE (Fo.pre 1 (.cons hh kids .nil)) = 1 := by
      obtain ⟨⟨r, hr⟩, -⟩ := hgood
      unfold checkE
      rw [← hr, List.all_append, List.all_map]
      rw [if_neg]
      simp only [Function.comp_def, hp]
      simp
    have k1 := h1.cell
    have f1 := h1.frozen
    have Hres := Lib.hid hres
    clear hres hgood hp
    gi_wp2
    refine ⟨by simp, .inl ⟨_, _, rfl, run_takeDeferred hK, ?_⟩⟩
    have hc5 := h1.kept (grownBy_putObj' _ D (.deferred none)) (by simp; omega)
    have hc6 := hc5.cell
    refine ⟨.int .i64 1, ?_, by rw [Hres.out], ?_⟩
    · simp [results, Try.f74, go_sem, hc6]
    · exact hB.trans ((Below.refl w.heap.size _).grown (grownBy_putObj' _ D (.deferred none)) hB.size (fun k e => by cases e; omega))
end Go.Proofs.Ytngbfjimmdkfeaa

