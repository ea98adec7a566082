/- nest.All over items: the walk over an item and all that is in it: its contract for whoever ranges over it. -/
import Derived.Test.YtahibjiiaocjkaaRange
import Derived.Test.YtahibjiiaocjkaaOpen3
import Derived.OwnWalkIn
import Derived.TacticsInMore
import Derived.LoopNIn
import Derived.LoopIn
import Derived.Sort.LoopGhostIn
import Derived.Deep.RegionLaw
namespace Go.Proofs.Ytahibjiiaocjkaa
open Go.RowKit Go.Shelf

attribute [local go_sem] Oper.semAt_some

/-- A node with the value of its list. -/
structure Nx where
  nd : Nd
  a : Option Addr
  cap : Nat

def encs (x : Nx) : Array Value := #[.int .i64 (x.nd.d : Int), itemV x.nd.h x.a x.nd.len x.cap]

def Good (all : List Nd) (pre : List Nx) : Prop := ∃ r, pre.map (·.nd) ++ r = all
def Full (all : List Nd) (pre : List Nx) : Prop := pre.map (·.nd) = all

/-- The types of the iterator's own rows. -/
def itT (t : TypeId) : Bool := t == 22 || t == 24 || t == 55

/-- The function that tells an item's list, as a value. -/
abbrev inV : Value := .func (.func 35) #[] #[]

/-- What the value of an open list leads to: items of the caller's, as they lay in w0; or the item itself, in the block R. -/
def Ent (w0 wr : World) (R : Nat) (v : Value) (f : Fo) : Prop :=
  (∃ a cap, v = .slice a f.len cap ∧ Items w0 a cap f) ∨
  (∃ h kids ka kcap, f = .cons h kids .nil ∧ v = .slice (some ⟨R, 0, none⟩) 1 1 ∧ wr.heap[R]? = some (.cells #[.int .i64 h.k, .int .i64 h.n, .string h.s, .slice ka kids.len kcap] 24 (0, 0)) ∧ Items w0 ka kcap kids)

def Stk (w0 wr : World) (R : Nat) : List Fo → List Value → Prop
  | [], [] => True
  | f :: fs, v :: vs => Ent w0 wr R v f ∧ Stk w0 wr R fs vs
  | _, _ => False

theorem Ent.turn {w0 wr wr' : World} {R : Nat} {v : Value} {f : Fo} (h : Ent w0 wr R v f) (hk : ∀ (cs : Array Value), wr.heap[R]? = some (.cells cs 24 (0, 0)) → wr'.heap[R]? = some (.cells cs 24 (0, 0))) : Ent w0 wr' R v f := by
  rcases h with h | ⟨h, kids, ka, kcap, e1, e2, e3, e4⟩
  · exact .inl h
  · exact .inr ⟨h, kids, ka, kcap, e1, e2, hk _ e3, e4⟩
theorem Stk.turn {w0 wr wr' : World} {R : Nat} (hk : ∀ (cs : Array Value), wr.heap[R]? = some (.cells cs 24 (0, 0)) → wr'.heap[R]? = some (.cells cs 24 (0, 0))) : ∀ (fs : List Fo) (vs : List Value), Stk w0 wr R fs vs → Stk w0 wr' R fs vs := by
  intro fs
  induction fs with
  | nil => intro vs h; cases vs with
    | nil => trivial
    | cons v vs => exact h.elim
  | cons f fs ih => intro vs h; cases vs with
    | nil => exact h.elim
    | cons v vs => exact ⟨h.1.turn hk, ih vs h.2⟩
theorem Stk.length {w0 wr : World} {R : Nat} : ∀ (fs : List Fo) (vs : List Value), Stk w0 wr R fs vs → vs.length = fs.length := by
  intro fs
  induction fs with
  | nil => intro vs h; cases vs with
    | nil => rfl
    | cons v vs => exact h.elim
  | cons f fs ih => intro vs h; cases vs with
    | nil => exact h.elim
    | cons v vs => simp [ih vs h.2]

/-- The first item of an open list, read in a world and in each one behind a round. -/
theorem Ent.first {n₀ : Nat} {w0 wr : World} {R : Nat} {v : Value} {h : Hd} {kids rest : Fo} (hw : Below w0.heap.size w0 wr) (hn₀ : n₀ = w0.heap.size) (he : Ent w0 wr R v (.cons h kids rest)) :
    ∃ b off cap ka kcap, v = .slice (some ⟨b, off, none⟩) (rest.len + 1) cap ∧ rest.len + 1 ≤ cap ∧ cap ≤ 9223372036854775807 ∧
      (∀ W', (W' = wr ∨ Spares n₀ itT wr W') → W'.cell? ⟨b, off, none⟩ = some (.int .i64 h.k) ∧ W'.cell? ⟨b, off + 1, none⟩ = some (.int .i64 h.n) ∧ W'.cell? ⟨b, off + 2, none⟩ = some (.string h.s) ∧ W'.cell? ⟨b, off + 3, none⟩ = some (.slice ka kids.len kcap)) ∧
      (∀ (gg : Nat) (cur : Array Value), wr.heap[gg]? = some (.cells cur 22 (0, 0)) → w0.heap.size ≤ gg → b ≠ gg) ∧
      Items w0 ka kcap kids ∧ Items w0 (if cap = 1 then some ⟨b, off, none⟩ else some ⟨b, off + 4, none⟩) (cap - 1) rest := by
  subst hn₀
  rcases he with ⟨a, cap, rfl, hi⟩ | ⟨h', kids', ka, kcap, e1, rfl, e3, e4⟩
  · obtain ⟨b, off, rfl, h1, h2, h3, ⟨ka, kcap, h4, h5, h6, h7, h8⟩, h9⟩ := hi.at_ (by simp [Fo.len])
    have hle := hi.le
    simp only [Fo.len] at hle
    refine ⟨b, off, cap, ka, kcap, rfl, hle, hi.max, ?_, fun gg cur _ hgg => by have := World.block_lt_of_cell? w0 _ h1; simp only at this; omega, ⟨h5, h6, h7, h8⟩, ⟨by omega, by have := hi.max; omega, fun e => (by split at e <;> cases e), fun hr => ?_⟩⟩
    · have hc : ∀ W', (W' = wr ∨ Spares w0.heap.size itT wr W') → ∀ o v, w0.cell? ⟨b, o, none⟩ = some v → W'.cell? ⟨b, o, none⟩ = some v := by
        intro W' hW o v hv
        have hlt := World.block_lt_of_cell? w0 _ hv
        rcases hW with rfl | hW
        · exact (hw.cell (p := ⟨b, o, none⟩) hlt).trans hv
        · exact ((hw.trans hW.below).cell (p := ⟨b, o, none⟩) hlt).trans hv
      exact fun W' hW => ⟨hc W' hW _ _ h1, hc W' hW _ _ h2, hc W' hW _ _ h3, hc W' hW _ _ h4⟩
    · rw [if_neg (by omega)]
      exact ⟨b, off + 4, rfl, h9⟩
  · cases e1
    refine ⟨R, 0, 1, ka, kcap, rfl, by simp [Fo.len], by omega, ?_, fun gg cur hgg _ e => by subst e; rw [e3] at hgg; simp at hgg, e4, ⟨by simp [Fo.len], by omega, fun e => (by split at e <;> cases e), fun hr => (by simp [Fo.len] at hr)⟩⟩
    intro W' hW
    have : W'.heap[R]? = some (.cells #[.int .i64 h.k, .int .i64 h.n, .string h.s, .slice ka kids.len kcap] 24 (0, 0)) := by
      rcases hW with rfl | hW
      · exact e3
      · exact hW.same R _ _ _ e3 (by decide)
    simp [World.cell?, this]

set_option maxRecDepth 100000 in
set_option maxHeartbeats 400000 in
theorem all_any (v : Array Value) (hv : v.size = 4) (w : World) :
    Calls Try.prog 34 #[.agg v, inV] w fun e w' => e = .returned (.func (.func 49) #[] #[.pointer (some ⟨w.heap.size, 0, none⟩), .pointer (some ⟨w.heap.size + 1, 0, none⟩)]) ∧ w' = (w.alloc (.cells v 24)).alloc (.cells #[inV] 55) := by
  obtain ⟨l⟩ := v
  obtain ⟨x0, x1, x2, x3, rfl⟩ : ∃ x0 x1 x2 x3, l = [x0, x1, x2, x3] := by
    match l, hv with
    | [x0, x1, x2, x3], _ => exact ⟨_, _, _, _, rfl⟩
  go_enter Try.func34, Try.ntmps34
  go_wp2
  go_ret
  exact ⟨rfl, rfl⟩

/-- An item's list. -/
theorem items_any (h : Hd) (a : Option Addr) (len cap : Nat) (w : World) :
    Calls Try.prog 35 #[itemV h a len cap] w fun e w' => e = .returned (.slice a len cap) ∧ w' = w.alloc (.cells #[.int .i64 h.k, .int .i64 h.n, .string h.s, .slice a len cap] 24) := by
  obtain ⟨k, n, s⟩ := h
  go_enter Try.func35, Try.ntmps35
  go_wp2
  go_ret
  exact ⟨rfl, rfl⟩

/-- An append whose run is known, as a step of a region that draws its order. -/
theorem step_append_run {P : Program} {ops : Array Oper} {o : Oper} {a : Act} {w : World} {K : Act → World → Prop} {Q : Exit → Act → World → Prop} {E : Prop} (hgd : o.guard = none) (s x : Operand) (t t2 : TypeId)
    (hop : o.op = Op.call { callee := Callee.builtin Builtin.append, args := #[s, x], argTypes := #[t, t2] }) (vs vx v' : Value) (w' : World) (hs : a.eval s = vs) (hx : a.eval x = vx)
    (hrun : (Builtin.append_ #[t, t2] o.type #[vs, vx]).run P w = .ok v' w') (h : K (a.put o.dst v') w') :
    if Region.wanted o (yielded ops a.tmps) = true then Oper.wp P o a w K Q else E := by
  have hw : Region.wanted o (yielded ops a.tmps) = true := by simp [Region.wanted, hgd]
  rw [if_pos hw]
  unfold Oper.wp
  simp [execOp, hop, resolve, invoke, builtin, hs, hx, hrun, Result.andThen]
  exact h

theorem info_items : (Try.prog.info? 22).map (fun i => (i.zero, i.size, i.bytes)) = some (some (.slice none 0 0), 1, 24) := by kernel_rfl

theorem new_cell (W : World) (v : Value) (t : TypeId) : ∀ j u, [v][j]? = some u → (W.alloc (.cells #[v] t)).cell? ((⟨W.heap.size, 0, none⟩ : Addr).add j) = some u := by
  intro j u h
  have hj : j = 0 := by
    rcases j with _ | j
    · rfl
    · simp at h
  subst hj
  simp only [List.getElem?_cons_zero, Option.some.injEq] at h
  subst h
  have := World.alloc_heap_new W (.cells #[v] t)
  show World.cell? _ ⟨W.heap.size, 0, none⟩ = _
  unfold World.cell?
  rw [show ((⟨W.heap.size, 0, none⟩ : Addr).block) = W.heap.size from rfl, this]
  simp

/-- A list is put onto the row of open lists. -/
theorem run_push (w : World) (ty : TypeId) {base n cap : Nat} {a : Option Addr} {row : List Value} (v : Value) (hv : v.oneCell' = true) (hown : w.ownsRow base 22 1 (.slice a n cap) n row) (hn : n + 1 ≤ 1099511627780) (hbase : base ≤ w.heap.size) :
    ∃ a' cap' w', (Builtin.append_ #[65, 65] ty #[.slice a n cap, .slice (some ⟨w.heap.size, 0, none⟩) 1 1]).run Try.prog (w.alloc (.cells #[v] 22)) = .ok (.slice a' (n + 1) cap') w' ∧
      w'.ownsRow base 22 1 (.slice a' (n + 1) cap') (n + 1) (row ++ [v]) ∧ w.grownBy w' (Value.slice a n cap).ownBlock := by
  obtain ⟨i0, hi, hz0, hz1, hz2⟩ := info_parts info_items
  obtain ⟨v', w', hrun, ho, hg, _⟩ := run_append_own (P := Try.prog) (w.alloc (.cells #[v] 22)) base 65 ty 22 i0 (.slice none 0 0) 1 24 Try.underlying65 hi hz0 hz1 hz2 rfl (by decide) _ n _ (hown.alloc _) ⟨w.heap.size, 0, none⟩ 1 1 [v] rfl (new_cell w v _) (by simpa using hv) (by unfold maxLen; omega) (by omega) (by simp; omega)
  obtain ⟨a', cap', rfl⟩ := slice_of_own ho
  exact ⟨a', cap', w', hrun, ho, grownBy_trans (World.grownBy_alloc w _ _) hg (fun i e => .inl e)⟩

/-- What holds at the head of each round. -/
def AllInv (Bi : Nat) (w0 W : World) (J : List Nx → World → Prop) (all : List Nd) (k : Nat) (o : Value) (wr : World) : Prop :=
  ∃ (fs : List Fo) (vs : List Value) (a : Option Addr) (cap : Nat) (pre : List Nx), k = steps fs ∧ o = .slice a fs.length cap ∧ wr.ownsRow W.heap.size 22 1 (.slice a fs.length cap) fs.length vs.reverse ∧
    Stk w0 wr W.heap.size fs vs ∧ J pre wr ∧ pre.map (·.nd) ++ rem fs = all ∧ fs.length ≤ pre.length + 1 ∧ Below w0.heap.size w0 wr ∧ wr.heap[Bi]? = some (.cells #[inV] 55 (0, 0))

/-- The invariant behind a round that has gone on. -/
theorem allInv_next {Bi : Nat} {w0 W wr W3 w1 : World} {J : List Nx → World → Prop} {all : List Nd} {pre : List Nx} {h' : Hd} {kids' rest : Fo} {fs : List Fo} {vs : List Value} {g cap2 : Nat} {cur : Array Value} {ka' A2 : Option Addr} {kcap' : Nat} {x : Nx} {v' : Value} {row : List Value}
    (hvl : vs.length = fs.length) (hall : pre.map (·.nd) ++ rem (.cons h' kids' rest :: fs) = all) (hst : Stk w0 wr W.heap.size fs vs) (hbl : Below w0.heap.size w0 wr) (hs3 : Spares w0.heap.size itT wr W3)
    (hgc3 : W3.heap[g]? = some (.cells cur 22 (0, 0))) (hgb : W.heap.size ≤ g) (hz : w0.heap.size ≤ W.heap.size) (hj3 : J (pre ++ [x]) W3) (hJ : Bears W.heap.size itT J) (hg : W3.grownBy w1 (some g))
    (hkk : Items w0 ka' kcap' kids') (hrr : Items w0 A2 (cap2 - 1) rest) (hx : x.nd = ⟨fs.length + 1, h', kids'.len⟩)
    (hrow : row = (vs.reverse ++ [.slice A2 rest.len (cap2 - 1)]) ++ [.slice ka' kids'.len kcap'])
    {a : Option Addr} {cap : Nat} (hv : v' = .slice a (fs.length + 1 + 1) cap) (hown : w1.ownsRow W.heap.size 22 1 v' (fs.length + 1 + 1) row) (hlen : fs.length + 1 ≤ pre.length + 1)
    (hBi : wr.heap[Bi]? = some (.cells #[inV] 55 (0, 0))) :
    AllInv Bi w0 W J all (steps (kids' :: rest :: fs)) v' w1 := by
  subst hv
  have hroot : ∀ (cs : Array Value), wr.heap[W.heap.size]? = some (.cells cs 24 (0, 0)) → w1.heap[W.heap.size]? = some (.cells cs 24 (0, 0)) := by
    intro cs hcs
    have h3 := hs3.same _ cs _ _ hcs (by decide)
    refine (hg.block _ (Array.getElem?_eq_some_iff.1 h3).1 (fun e => ?_)).trans h3
    cases e
    rw [hgc3] at h3
    simp at h3
  refine ⟨kids' :: rest :: fs, .slice ka' kids'.len kcap' :: .slice A2 rest.len (cap2 - 1) :: vs, a, cap, pre ++ [x], rfl, rfl, ?_, ⟨.inl ⟨_, _, rfl, hkk⟩, .inl ⟨_, _, rfl, hrr⟩, Stk.turn hroot _ _ hst⟩, ?_, ?_, ?_, ?_, ?_⟩
  · rw [hrow] at hown; simpa using hown
  · exact hJ _ W3 w1 (some g) hj3 hg (fun r e => by cases e; exact ⟨hgb, _, hgc3, .inr ⟨_, _, _, rfl, by decide⟩⟩)
  · rw [← hall]; simp [rem, Fo.pre, hx]
  · simp; omega
  · exact hbl.trans (hs3.below.trans ((Below.refl _ W3).grown hg (Nat.le_trans hbl.size hs3.below.size) (fun k e => by cases e; omega)))
  · have h3 := hs3.same _ _ _ _ hBi (by decide)
    refine (hg.block _ (Array.getElem?_eq_some_iff.1 h3).1 (fun e => ?_)).trans h3
    cases e
    rw [hgc3] at h3
    simp at h3

set_option maxRecDepth 100000 in
set_option maxHeartbeats 1000000 in
theorem all1_in (w0 W : World) (Bs Bi : Nat) (h : Hd) (kids : Fo) (ka : Option Addr) (kcap : Nat) (hk : Items w0 ka kcap kids) (hW0 : Below w0.heap.size w0 W)
    (hN : kids.size ≤ 1099511627776)
    (c0 : W.cell? ⟨Bs, 0, none⟩ = some (.int .i64 h.k)) (c1 : W.cell? ⟨Bs, 1, none⟩ = some (.int .i64 h.n)) (c2 : W.cell? ⟨Bs, 2, none⟩ = some (.string h.s)) (c3 : W.cell? ⟨Bs, 3, none⟩ = some (.slice ka kids.len kcap))
    (hi0 : W.heap[Bi]? = some (.cells #[inV] 55 (0, 0)))
    (l : Nat) (J Jx : List Nx → World → Prop) (hJ : Bears W.heap.size itT J) (hJx : Bears W.heap.size itT Jx)
    (hY : ∀ pre x W1, J pre W1 → Good (Fo.pre 1 (.cons h kids .nil)) (pre ++ [x]) → YieldAt Fence.wide 0 Try.prog l (encs x) W1 fun e W' =>
      (e = .returned (.bool true) ∧ J (pre ++ [x]) W' ∧ Spares w0.heap.size itT W1 W') ∨ (e = .returned (.bool false) ∧ Jx (pre ++ [x]) W'))
    (h0 : J [] W) :
    CallsIn Fence.wide 0 Try.prog 49 #[.func (.yield l) #[] #[], .pointer (some ⟨Bs, 0, none⟩), .pointer (some ⟨Bi, 0, none⟩)] W fun e W' => (∃ v, e = .returned v) ∧ ((∃ xs, Full (Fo.pre 1 (.cons h kids .nil)) xs ∧ J xs W') ∨ (∃ pre, Good (Fo.pre 1 (.cons h kids .nil)) pre ∧ Jx pre W')) := by
  refine callsIn_of_wp Try.func49 rfl trivial ?_ rfl
  simp only [Try.ntmps49, List.size_toArray, List.length_cons, List.length_nil, Nat.reduceAdd, Nat.reduceSub, Array.replicate_succ, Array.replicate_zero, List.push_toArray, List.append_toArray, List.nil_append, List.cons_append]
  gi_wp2_with (fail)
  have hz := hW0.size
  have hBiW : Bi < W.heap.size := (Array.getElem?_eq_some_iff.1 hi0).1
  gi_loopg [4] (steps [.cons h kids .nil]) (fun k o wr => AllInv Bi w0 W J (Fo.pre 1 (.cons h kids .nil)) k o wr)
  case atStart =>
    have hR := Below.heap_alloc (W.alloc (.cells #[.int .i64 h.k, .int .i64 h.n, .string h.s, .slice ka kids.len kcap] 24)) (.cells #[.slice (some ⟨W.heap.size, 0, none⟩) 1 1] 22) W.heap.size (by simp)
    refine ⟨[.cons h kids .nil], [.slice (some ⟨W.heap.size, 0, none⟩) 1 1], _, 1, [], rfl, rfl, ?_, ⟨.inr ⟨h, kids, ka, kcap, rfl, rfl, ?_, hk⟩, trivial⟩, hJ.alloc _ (hJ.alloc _ h0), by simp [rem], by simp, ?_, ?_⟩
    · have := World.ownsRow_lit (base := W.heap.size) (e := 22) (size := 1) (W.alloc (.cells #[.int .i64 h.k, .int .i64 h.n, .string h.s, .slice ka kids.len kcap] 24)) #[.slice (some ⟨W.heap.size, 0, none⟩) 1 1] 1 (by simp) (by unfold maxLen; omega) rfl
      simpa using this
    · rw [hR]; exact World.alloc_heap_new W _
    · exact hW0.trans ((((Below.refl _ W).alloc (Nat.le_refl _) _).alloc (by simp) _).mono hz)
    · exact (Below.heap_alloc _ _ _ (by simp; omega)).trans ((Below.heap_alloc _ _ _ hBiW).trans hi0)
  case round =>
    obtain ⟨fs, vs, a, cap, pre, rfl, rfl, hown, hst, hj, hall, hlen, hbl, hBi⟩ := hrel
    cases fs with
    | nil =>
      gi_wp2
      go_end0
      exact ⟨⟨_, rfl⟩, .inl ⟨pre, by simpa [rem, Full] using hall, hj⟩⟩
    | cons f fs =>
      cases vs with
      | nil => exact hst.elim
      | cons v vs =>
      simp only [List.length_cons] at hown hlen ⊢
      have hvl := hst.2.length
      obtain ⟨g, cap', e⟩ := ownsRow_succ hown
      simp only [Value.slice.injEq, true_and] at e
      obtain ⟨rfl, rfl⟩ := e
      have hrow := hown
      rw [List.reverse_cons] at hrow
      have hcell : wr.cell? ⟨g, fs.length, none⟩ = some v := by
        rw [hrow.cellAt fs.length (by omega), List.getElem?_append_right (by rw [List.length_reverse, hvl]; exact Nat.le_refl _)]
        simp [hvl]
      have hfro := hrow.frozenAt fs.length
      have hcapm : fs.length + 1 ≤ cap ∧ cap ≤ 9223372036854775807 := by
        rcases hrow.2 with ⟨e, _⟩ | ⟨g', cap', cur, e, _, _, h1, h2, _⟩
        · cases e
        · simp only [Value.slice.injEq, true_and] at e
          obtain ⟨-, rfl⟩ := e
          exact ⟨h1, by unfold maxLen at h2; omega⟩
      obtain ⟨hc1, hc2⟩ := hcapm
      cases f with
      | nil =>
        obtain ⟨a2, cap2, rfl⟩ : ∃ a2 cap2, v = .slice a2 0 cap2 := by
          rcases hst.1 with ⟨a2, cap2, e, _⟩ | ⟨_, _, _, _, e, _⟩
          · exact ⟨a2, cap2, e⟩
          · cases e
        have hpop := ownsRow_pop (n := fs.length) (by simp [hvl]) hrow
        have Hlen := Lib.hid hlen
        have Hvl := Lib.hid hvl
        have HBi := Lib.hid hBi
        clear hrow hown hvl hBi
        gi_wp2
        gi_roundg (steps fs)
        case measure => simp [steps]
        case rel => exact ⟨fs, vs, some ⟨g, 0, none⟩, cap, pre, rfl, by simp, hpop, hst.2, hj, by simpa [rem, Fo.pre] using hall, by have := Hlen.out; omega, hbl, HBi.out⟩
      | cons h' kids' rest =>
        obtain ⟨b, off, cap2, ka', kcap', rfl, hle2, hmx2, hcells, hbg, hkk, hrr⟩ := Ent.first hbl rfl hst.1
        obtain ⟨q0, q1, q2, q3⟩ := hcells wr (.inl rfl)
        have hgood : Good (Fo.pre 1 (.cons h kids .nil)) (pre ++ [⟨⟨fs.length + 1, h', kids'.len⟩, ka', kcap'⟩]) :=
          ⟨kids'.pre (fs.length + 1 + 1) ++ rest.pre (fs.length + 1) ++ rem fs, by rw [← hall]; simp [rem, Fo.pre]⟩
        have hdeep : pre.length + 1 ≤ kids.size + 1 := by
          obtain ⟨r, hr⟩ := hgood
          have := congrArg List.length hr
          simp [Fo.pre_length, Fo.size] at this
          omega
        obtain ⟨fn, tmps, assign, body, hy, hR⟩ := hY pre _ wr hj hgood
        dsimp only [encs, itemV] at hy
        rw [show ((fs.length + 1 : Nat) : Int) = (fs.length : Int) + 1 from rfl] at hy
        have Hlen := Lib.hid hlen
        have Hvl := Lib.hid hvl
        have HBi := Lib.hid hBi
        have hg0 : W.heap.size ≤ g ∧ ∃ cur, wr.heap[g]? = some (.cells cur 22 (0, 0)) := by
          rcases hrow.2 with ⟨e, _⟩ | ⟨g', cap', cur, e, hb, h1, _⟩
          · cases e
          · cases e; exact ⟨hb, cur, h1⟩
        obtain ⟨hgb, cur, hgc⟩ := hg0
        have hbg' : ¬ b = g := hbg g cur hgc (by omega)
        have hgb' : ¬ g = b := fun e => hbg' e.symm
        have hvl' := hvl
        clear hvl hlen hbg hBi
        have hcase : ∃ A2, Items w0 A2 (cap2 - 1) rest ∧ ((cap2 = 1 ∧ A2 = some ⟨b, off, none⟩) ∨ (¬ cap2 = 1 ∧ A2 = some ⟨b, off + 4, none⟩)) := by
          by_cases hc : cap2 = 1
          · rw [if_pos hc] at hrr; exact ⟨_, hrr, .inl ⟨hc, rfl⟩⟩
          · rw [if_neg hc] at hrr; exact ⟨_, hrr, .inr ⟨hc, rfl⟩⟩
        clear hrr
        gi_wp2_with (fail)
        refine ⟨rfl, hR.mono ?_⟩
        rintro e W3 (⟨rfl, hj3, hs3⟩ | ⟨rfl, hjx⟩)
        · have hown3 : W3.ownsRow W.heap.size 22 1 (.slice (some ⟨g, 0, none⟩) (fs.length + 1) cap) (fs.length + 1) (vs.reverse ++ [.slice (some ⟨b, off, none⟩) (rest.len + 1) cap2]) := by
            rcases hrow.2 with ⟨e, _⟩ | ⟨g', cap', cur, e, hb, h1, r⟩
            · cases e
            · cases e; exact ⟨hrow.1, .inr ⟨g, cap, cur, rfl, hb, hs3.same g cur _ _ h1 (by decide), r⟩⟩
          have hgc3 := hs3.same g cur _ _ hgc (by decide)
          have hBi3 := hs3.same Bi _ _ _ HBi.out (by decide)
          have hBig : ¬ Bi = g := by
            rintro rfl
            rw [hgc3] at hBi3
            simp at hBi3
          have hcell3 : W3.cell? ⟨g, fs.length, none⟩ = some (.slice (some ⟨b, off, none⟩) (rest.len + 1) cap2) := by
            have := Hvl.out
            rw [hown3.cellAt fs.length (by omega), List.getElem?_append_right (by rw [List.length_reverse, this]; exact Nat.le_refl _)]
            simp [this]
          have hfro3 := hown3.frozenAt fs.length
          obtain ⟨p0, p1, p2, p3⟩ := hcells W3 (.inr hs3)
          have hst2 := hst.2
          clear hown hrow hcell hfro q0 q1 q2 q3 hgc hy hR hcells hj hst h0
          have hN' := hN
          have hkeep : ∀ A2, ∃ w5, W3.setCell ⟨g, fs.length, none⟩ (.slice A2 rest.len (cap2 - 1)) = w5 ∧ w5.ownsRow W.heap.size 22 1 (.slice (some ⟨g, 0, none⟩) (fs.length + 1) cap) (fs.length + 1) (vs.reverse ++ [.slice A2 rest.len (cap2 - 1)]) ∧ W3.grownBy w5 (some g) ∧
              w5.cell? ⟨b, off, none⟩ = some (.int .i64 h'.k) ∧ w5.cell? ⟨b, off + 1, none⟩ = some (.int .i64 h'.n) ∧ w5.cell? ⟨b, off + 2, none⟩ = some (.string h'.s) ∧ w5.cell? ⟨b, off + 3, none⟩ = some (.slice ka' kids'.len kcap') ∧ w5.cell? ⟨Bi, 0, none⟩ = some inV := by
            intro A2
            have hs := hown3.stored fs.length (.slice A2 rest.len (cap2 - 1))
            refine ⟨_, rfl, ?_, hs.2, ?_⟩
            · have := hs.1
              have hv := Hvl.out
              rw [List.set_append_right _ _ (by simp [hv])] at this
              simpa [hv] using this
            · have hc : ∀ (B o : Nat) (u : Value), ¬ B = g → W3.cell? ⟨B, o, none⟩ = some u → (W3.setCell ⟨g, fs.length, none⟩ (.slice A2 rest.len (cap2 - 1))).cell? ⟨B, o, none⟩ = some u :=
                fun B o u hB hu => by
                  have := hs.2.block B (World.block_lt_of_cell? W3 _ hu) (by simpa using hB)
                  simp only [World.cell?] at hu ⊢
                  rw [this]; exact hu
              exact ⟨hc _ _ _ hbg' p0, hc _ _ _ hbg' p1, hc _ _ _ hbg' p2, hc _ _ _ hbg' p3, hc _ _ _ hBig (by simp [World.cell?, hBi3])⟩
          rcases hcase with ⟨A2, hrr, hA⟩
          obtain ⟨w5, e5, hown5, hg5, x0, x1, x2, x3, xi⟩ := hkeep A2
          clear hkeep
          have hsz5 : W.heap.size ≤ w5.heap.size := by
            have h1 := (Array.getElem?_eq_some_iff.1 hgc3).1
            have h2 := hg5.size
            omega
          have hrun5 := fun (w4 : World) (h4 : w4 = w5.drew.alloc (.cells #[.int .i64 h'.k, .int .i64 h'.n, .string h'.s, .slice ka' kids'.len kcap'] 24)) =>
            run_push w4 65 (.slice ka' kids'.len kcap') (by simp [Value.oneCell']) (h4 ▸ (hown5.drew.alloc _)) (by have := Hlen.out; omega) (by rw [h4]; simp; omega)
          have HE := Lib.hid e5
          clear e5
          rcases hA with ⟨rfl, rfl⟩ | ⟨hcap, rfl⟩
          · obtain rfl : rest = .nil := by cases rest with
              | nil => rfl
              | cons _ _ _ => simp [Fo.len] at hle2
            simp only [Fo.len, Nat.zero_add] at hown3 hcell3 hle2 HE hown5 hrun5 ⊢
            gi_wp2_with (fail)
            rw [HE.out]
            refine wpIn_wide.2 ?_
            go_region_law (first | (refine step_append_run rfl (.tmp 40) (.tmp 46) 65 65 rfl _ _ _ _ rfl rfl Hr5.out ?_) | (go_simp; go_at_call 35; (with_reducible refine (items_any h' ka' kids'.len kcap' w5.drew).mono ?_); rintro e w4 ⟨rfl, hw4⟩; obtain ⟨a6, c6, w6, hrun6, hown6, hg6⟩ := hrun5 w4 hw4; have hg46 : w5.grownBy w6 (some g) := grownBy_trans (grownBy_trans (grownBy_drew w5 _) (hw4 ▸ World.grownBy_alloc _ _ (some g)) (fun i e => .inl e)) hg6 (fun i e => .inl e); have Hr5 := Lib.hid hrun6; have Hown6 := Lib.hid hown6; clear hrun6 hw4 hown6 hg6))
            all_goals
              have hg13 : W3.grownBy w6 (some g) := grownBy_trans hg5 hg46 (fun i e => .inl e)
              refine ‹∀ (a' : Act) (w' : World), Handed _ _ a' w' → _› _ _ ?_
              gi_roundg (steps (kids' :: .nil :: fs))
              case measure => simp [steps, Fo.size]; omega
              case rel => exact allInv_next (cap2 := 1) hvl' hall hst2 hbl hs3 hgc3 hgb hz hj3 hJ hg13 hkk hrr rfl (by simp [Fo.len, hvl']) rfl Hown6.out Hlen.out HBi.out
          · gi_wp2_with (fail)
            rw [HE.out]
            refine wpIn_wide.2 ?_
            go_region_law (first | (refine step_append_run rfl (.tmp 40) (.tmp 46) 65 65 rfl _ _ _ _ rfl rfl Hr5.out ?_) | (go_simp; go_at_call 35; (with_reducible refine (items_any h' ka' kids'.len kcap' w5.drew).mono ?_); rintro e w4 ⟨rfl, hw4⟩; obtain ⟨a6, c6, w6, hrun6, hown6, hg6⟩ := hrun5 w4 hw4; have hg46 : w5.grownBy w6 (some g) := grownBy_trans (grownBy_trans (grownBy_drew w5 _) (hw4 ▸ World.grownBy_alloc _ _ (some g)) (fun i e => .inl e)) hg6 (fun i e => .inl e); have Hr5 := Lib.hid hrun6; have Hown6 := Lib.hid hown6; clear hrun6 hw4 hown6 hg6))
            all_goals
              have hg13 : W3.grownBy w6 (some g) := grownBy_trans hg5 hg46 (fun i e => .inl e)
              refine ‹∀ (a' : Act) (w' : World), Handed _ _ a' w' → _› _ _ ?_
              gi_roundg (steps (kids' :: rest :: fs))
              case measure => simp [steps, Fo.size]; omega
              case rel => exact allInv_next (cap2 := cap2) hvl' hall hst2 hbl hs3 hgc3 hgb hz hj3 hJ hg13 hkk hrr rfl (by simp [hvl']) rfl Hown6.out Hlen.out HBi.out
        · gi_wp2
          refine bodyPost_ret (results_none rfl _ _ _) rfl ?_
          exact ⟨⟨_, rfl⟩, .inr ⟨_, hgood, hjx⟩⟩
end Go.Proofs.Ytahibjiiaocjkaa
