/- Texts joined: Io Ip Iq Bv Bw Bx Ir. -/
import Derived.Test.YthogiakfbgehnaaREAd
import Derived.Laws.MakeOwn
import Derived.Lib.SliceRun
set_option linter.unusedVariables false
set_option linter.unusedSimpArgs false
namespace Go.Proofs.Ythogiakfbgehnaa
open Go.RowKit

/-- An alternative by numbers: its numbers, and where they lie. -/
structure IltD where
  l : List Int
  a : Option Addr
  c : Nat
abbrev IltD.v (d : IltD) : Value := .slice d.a d.l.length d.c
abbrev Ints (w : World) (a : Option Addr) (cap : Nat) (l : List Int) : Prop := Vs w a cap (l.map (Value.int .i64))
structure AltsI (w : World) (a : Option Addr) (cap : Nat) (ds : List IltD) : Prop where
  row : Vs w a cap (ds.map IltD.v)
  nms : ∀ d ∈ ds, Ints w d.a d.c d.l
theorem AltsI.grown {w w' : World} {a : Option Addr} {cap : Nat} {l : List IltD} (h : AltsI w a cap l) (hb : Below w.heap.size w w') : AltsI w' a cap l := ⟨h.row.grown hb, fun d hd => (h.nms d hd).grown hb⟩
/-- An own list of own lists of numbers; of names. -/
structure OwnXI (W : World) (base : Nat) (a : Option Addr) (c : Nat) (ds : List IltD) : Prop where
  out : W.ownsRow base 35 1 (.slice a ds.length c) ds.length (ds.map IltD.v)
  ins : ∀ d ∈ ds, W.ownsRow base 3 1 (.slice d.a d.l.length d.c) d.l.length (d.l.map (Value.int .i64))
structure OwnXS (W : World) (base : Nat) (a : Option Addr) (c : Nat) (ds : List AltD) : Prop where
  out : W.ownsRow base 22 1 (.slice a ds.length c) ds.length (ds.map AltD.v)
  ins : ∀ d ∈ ds, W.ownsRow base 9 1 (.slice d.a d.l.length d.c) d.l.length (d.l.map Value.string)
theorem own_vals {W : World} {base n cap : Nat} {e : TypeId} {a : Option Addr} {l : List Value} (h : W.ownsRow base e 1 (.slice a n cap) n l) (hn : n = l.length) : Vs W a cap l := by
  subst hn
  rcases h.2 with ⟨e1, e2⟩ | ⟨g, cap', cur, e1, hb, hg, hle, hm, hs, ht⟩
  · have : l = [] := List.length_eq_zero_iff.1 e2
    subst this
    simp only [Value.slice.injEq] at e1
    obtain ⟨rfl, -, rfl⟩ := e1
    exact Vs.nil W
  · simp only [Value.slice.injEq] at e1
    obtain ⟨rfl, -, rfl⟩ := e1
    refine ⟨hle, by unfold maxLen at hm; omega, fun e => (by cases e), fun i _ => ⟨g, 0, rfl⟩, fun b off e i hi => ?_⟩
    cases e
    rw [Nat.zero_add, h.cellAt i (by omega), List.getElem?_eq_getElem hi]
theorem OwnXI.alts {W : World} {base c : Nat} {a : Option Addr} {ds : List IltD} (h : OwnXI W base a c ds) : AltsI W a c ds :=
  ⟨own_vals h.out (by simp), fun d hd => own_vals (h.ins d hd) (by simp)⟩
theorem OwnXS.alts {W : World} {base c : Nat} {a : Option Addr} {ds : List AltD} (h : OwnXS W base a c ds) : Alts W a c ds :=
  ⟨own_vals h.out (by simp), fun d hd => own_vals (h.ins d hd) (by simp)⟩
section
variable {W W' : World} {base base' c : Nat} {a : Option Addr} {row : Option Nat}
theorem OwnXI.kept {ds : List IltD} (h : OwnXI W base a c ds) (hg : W.grownBy W' row) (hr : ∀ g, row = some g → ∃ cur t fr, W.heap[g]? = some (.cells cur t fr) ∧ 35 ≠ t ∧ 3 ≠ t) : OwnXI W' base a c ds :=
  ⟨own_kept_ty h.out hg (fun g e => by obtain ⟨cur, t, fr, h1, h2, _⟩ := hr g e; exact ⟨cur, t, fr, h1, h2⟩), fun d hd => own_kept_ty (h.ins d hd) hg (fun g e => by obtain ⟨cur, t, fr, h1, _, h2⟩ := hr g e; exact ⟨cur, t, fr, h1, h2⟩)⟩
theorem OwnXS.kept {ds : List AltD} (h : OwnXS W base a c ds) (hg : W.grownBy W' row) (hr : ∀ g, row = some g → ∃ cur t fr, W.heap[g]? = some (.cells cur t fr) ∧ 22 ≠ t ∧ 9 ≠ t) : OwnXS W' base a c ds :=
  ⟨own_kept_ty h.out hg (fun g e => by obtain ⟨cur, t, fr, h1, h2, _⟩ := hr g e; exact ⟨cur, t, fr, h1, h2⟩), fun d hd => own_kept_ty (h.ins d hd) hg (fun g e => by obtain ⟨cur, t, fr, h1, _, h2⟩ := hr g e; exact ⟨cur, t, fr, h1, h2⟩)⟩
theorem OwnXI.below {ds : List IltD} (h : OwnXI W base a c ds) (hb : Below W.heap.size W W') : OwnXI W' base a c ds := h.kept (below_grownBy hb none) (fun g e => by cases e)
theorem OwnXS.below {ds : List AltD} (h : OwnXS W base a c ds) (hb : Below W.heap.size W W') : OwnXS W' base a c ds := h.kept (below_grownBy hb none) (fun g e => by cases e)
theorem OwnXI.mono {ds : List IltD} (h : OwnXI W base a c ds) (hb : base' ≤ base) : OwnXI W base' a c ds := ⟨own_mono h.out hb, fun d hd => own_mono (h.ins d hd) hb⟩
theorem OwnXS.mono {ds : List AltD} (h : OwnXS W base a c ds) (hb : base' ≤ base) : OwnXS W base' a c ds := ⟨own_mono h.out hb, fun d hd => own_mono (h.ins d hd) hb⟩
end
theorem made_fill (z : Value) (hz : z.cells = #[z]) (n : Nat) : (madeCells z.cells (n * 1)).toList = List.replicate n z := by
  rw [hz, Nat.mul_one]
  apply List.ext_getElem
  · simp [size_madeCells]
  · intro i h1 h2
    simp [madeCells, Nat.mod_one]
end Go.Proofs.Ythogiakfbgehnaa

namespace Go.Proofs.Ythogiakfbgehnaa
open Go.RowKit

attribute [local go_sem] Oper.semAt_some

theorem info_rowI : (Try.prog.info? 35).map (fun i => (i.zero, i.size, i.bytes)) = some (some (.slice none 0 0), 1, 24) := by kernel_rfl
theorem info_elI : (Try.prog.info? 3).map (fun i => (i.zero, i.size, i.bytes)) = some (some (.int .i64 0), 1, 8) := by kernel_rfl
end Go.Proofs.Ythogiakfbgehnaa

namespace Go.Proofs.Ythogiakfbgehnaa
open Go.RowKit

attribute [local go_sem] Oper.semAt_some

theorem info_rowS : (Try.prog.info? 22).map (fun i => (i.zero, i.size, i.bytes)) = some (some (.slice none 0 0), 1, 24) := by kernel_rfl
end Go.Proofs.Ythogiakfbgehnaa

namespace Go.Proofs.Ythogiakfbgehnaa
open Go.RowKit Go.Maps

attribute [local go_sem] Oper.semAt_some

/-- Whether these are names that were not seen, each once. -/
def tokB : List ByteArray → List ByteArray → Bool
  | _, [] => true
  | seen, t :: r => nameB t && !mem t seen && tokB (seen ++ [t]) r
def ckT (ts : List ByteArray) : Int := if tokB [] ts then if 60 < ts.length then 2 else 0 else 1
end Go.Proofs.Ythogiakfbgehnaa

namespace Go.Proofs.Ythogiakfbgehnaa
open Go.RowKit Go.Maps Go.WideMaps

attribute [local go_sem] Oper.semAt_some

/-- The numbers behind so many tokens; behind so many rules. -/
def tkN (ts : List ByteArray) : Nat → ByteArray → Int
  | 0 => fun _ => 0
  | k + 1 => match ts[k]? with
    | some s => fun t => if t = s then (k : Int) else tkN ts k t
    | none => tkN ts k
def rlN (ts names : List ByteArray) : Nat → ByteArray → Int
  | 0 => tkN ts ts.length
  | k + 1 => match names[k]? with
    | some s => fun t => if t = s then -1 - (k : Int) else rlN ts names k t
    | none => rlN ts names k

end Go.Proofs.Ythogiakfbgehnaa

namespace Go.Proofs.Ythogiakfbgehnaa
open Go.RowKit

attribute [local go_sem] Oper.semAt_some

end Go.Proofs.Ythogiakfbgehnaa

namespace Go.Proofs.Ythogiakfbgehnaa
open Go.RowKit Go.Maps

attribute [local go_sem] Oper.semAt_some

/-- A grammar by numbers, plainly. -/
structure CfP where
  toks : List ByteArray
  names : List ByteArray
  alts : List (List (List Int))
deriving DecidableEq
/-- A rule's alternatives by numbers, and where they lie. -/
structure IrD where
  ds : List IltD
  a : Option Addr
  c : Nat
abbrev IrD.v (r : IrD) : Value := .slice r.a r.ds.length r.c
def IrD.p (r : IrD) : List (List Int) := r.ds.map (fun d => d.l)
/-- A grammar by numbers, and where it lies. -/
structure CfD where
  toks : List ByteArray
  ta : Option Addr
  tc : Nat
  names : List ByteArray
  na : Option Addr
  nc : Nat
  alts : List IrD
  aa : Option Addr
  ac : Nat
def CfD.p (d : CfD) : CfP := ⟨d.toks, d.names, d.alts.map IrD.p⟩
abbrev CfD.v (d : CfD) : Value := .agg #[.slice d.ta d.toks.length d.tc, .slice d.na d.names.length d.nc, .slice d.aa d.alts.length d.ac]
structure CfAt (W : World) (d : CfD) : Prop where
  toks : Nms W d.ta d.tc d.toks
  names : Nms W d.na d.nc d.names
  alts : Vs W d.aa d.ac (d.alts.map IrD.v)
  rules : ∀ r ∈ d.alts, AltsI W r.a r.c r.ds
theorem CfAt.grown {W W' : World} {d : CfD} (h : CfAt W d) (hb : Below W.heap.size W W') : CfAt W' d := ⟨h.toks.grown hb, h.names.grown hb, h.alts.grown hb, fun r hr => (h.rules r hr).grown hb⟩
def nilCf : CfD := ⟨[], none, 0, [], none, 0, [], none, 0⟩
theorem nilCf_at (W : World) : CfAt W nilCf := ⟨Vs.nil W, Vs.nil W, Vs.nil W, fun r h => by cases h⟩
/-- Why there are no numbers; 0: there are. -/
noncomputable def numE (rs : List RlD) (ts : List ByteArray) : Int := if chkG rs = 0 then if ckT ts = 0 then if (FLW rs ts).length = 0 then 0 else 80 else ckT ts else chkG rs
/-- The grammar by numbers. -/
def numC (rs : List RlD) (ts : List ByteArray) : CfP := ⟨ts, rs.map RlD.n, rs.map (fun r => r.ds.map (fun d => d.l.map (rlN ts (rs.map RlD.n) rs.length)))⟩
/-- What Number answers. -/
def NumQ (w : World) (E : Int) (C : CfP) (e : Ending) (W' : World) : Prop := ∃ d : CfD, e = .returned (.tuple #[d.v, .int .i64 E]) ∧ CfAt W' d ∧ d.p = (if E = 0 then C else ⟨[], [], []⟩) ∧ Below w.heap.size w W'
theorem info_alts2 : (Try.prog.info? 32).map (fun i => (i.zero, i.size, i.bytes)) = some (some (.slice none 0 0), 1, 24) := by kernel_rfl

theorem szA_mem : ∀ {ds : List AltD} {d : AltD}, d ∈ ds → d.l.length ≤ szA ds
  | e :: ds, d, h => by
    have e1 : szA (e :: ds) = e.l.length + szA ds := by simp [szA]
    rcases List.mem_cons.1 h with rfl | h
    · omega
    · have := szA_mem h
      omega
end Go.Proofs.Ythogiakfbgehnaa

