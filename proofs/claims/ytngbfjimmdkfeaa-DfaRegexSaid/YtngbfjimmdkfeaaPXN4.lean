/- Texts joined: Gd Ge Gf Gg Gh Gi Gj Gk. -/
import Derived.Test.YtngbfjimmdkfeaaPXN2
import Derived.Test.YtngbfjimmdkfeaaPXN3
import Derived.Deep.RegionHeld3
import Derived.Test.YtngbfjimmdkfeaaPXL
set_option linter.unusedVariables false
set_option linter.unusedSimpArgs false
namespace Go.Proofs.Ytngbfjimmdkfeaa
open Go.RowKit Go.Shelf

attribute [local go_sem] Oper.semAt_some

end Go.Proofs.Ytngbfjimmdkfeaa

namespace Go.Proofs.Ytngbfjimmdkfeaa
open Go.RowKit Go.Shelf

attribute [local go_sem] Oper.semAt_some

end Go.Proofs.Ytngbfjimmdkfeaa

namespace Go.Proofs.Ytngbfjimmdkfeaa
open Go.RowKit Go.Shelf

attribute [local go_sem] Oper.semAt_some

end Go.Proofs.Ytngbfjimmdkfeaa

namespace Go.Proofs.Ytngbfjimmdkfeaa
open Go.RowKit Go.Shelf

attribute [local go_sem] Oper.semAt_some

/-- Each of a list. -/
def AllB (P : Hd → Fo → Prop) : Fo → Prop
  | .nil => True
  | .cons h k r => P h k ∧ AllB P r
theorem AllB.drop {P : Hd → Fo → Prop} : ∀ (k : Nat) (f : Fo), AllB P f → AllB P (f.drop k) := by
  intro k
  induction k with
  | zero => intro f h; exact h
  | succ k ih => intro f h; cases f with
    | nil => trivial
    | cons hd kids rest => exact ih rest h.2
end Go.Proofs.Ytngbfjimmdkfeaa

namespace Go.Proofs.Ytngbfjimmdkfeaa
open Go.RowKit Go.Shelf

attribute [local go_sem] Oper.semAt_some

theorem OwnI.typ {w : World} {base n cap : Nat} {a : Option Addr} {l : List Nat} (h : OwnI w base a n cap l) : ∀ g, (Value.slice a n cap).ownBlock = some g → base ≤ g ∧ ∃ cur, w.heap[g]? = some (.cells cur 3 (0, 0)) := by
  intro g hg
  rcases h.2 with ⟨e, _⟩ | ⟨g', cap', cur, e, hb, hk, _⟩
  · rw [e] at hg; cases hg
  · rw [e] at hg
    simp only [Value.ownBlock, Option.some.injEq] at hg
    subst hg
    exact ⟨hb, cur, hk⟩
theorem OwnI.nth {w : World} {base n cap : Nat} {a : Option Addr} {l : List Nat} (h : OwnI w base a n cap l) {i : Nat} (hi : i < l.length) : ∃ g, a = some ⟨g, 0, none⟩ ∧ w.cell? ⟨g, i, none⟩ = some (.int .i64 (l[i] : Int)) ∧ n ≤ cap ∧ cap ≤ 9223372036854775807 := by
  have hn := h.len
  rcases h.2 with ⟨e, e0⟩ | ⟨g, cap', cur, e, hb, hk, hnc, hcm, _⟩
  · omega
  · injection e with e1 e2 e3
    subst e1 e3
    refine ⟨g, rfl, ?_, hnc, by unfold maxLen at hcm; omega⟩
    have := World.ownsRow.cellAt h i (by omega)
    rw [this, List.getElem?_map, List.getElem?_eq_getElem hi]
    rfl
/-- A number is put onto an own row beside an automaton that grows. -/
theorem MkAt.pushI {tm : TypeId} {w wr : World} {base bm n cap : Nat} {N s : Int} {ev : Value} {ga : Option Addr} {gc : Nat} {es : List Eg} {a : Option Addr} {l : List Nat} (h : MkAt tm wr base bm N s ev ga gc es) (ty : TypeId) (x : Nat) (hown : OwnI wr w.heap.size a n cap l) (hn : n + 1 ≤ 1099511627780) (hS : Spares base (mkT tm) w wr) (hB : base ≤ w.heap.size) (htm : tm ≠ 3) :
    ∃ a' cap' w', (Builtin.append_ #[23, 23] ty #[.slice a n cap, .slice (some ⟨wr.heap.size, 0, none⟩) 1 1]).run Try.prog (wr.alloc (.cells #[.int .i64 (x : Int)] 3)) = .ok (.slice a' (n + 1) cap') w' ∧
      OwnI w' w.heap.size a' (n + 1) cap' (l ++ [x]) ∧ MkAt tm w' base bm N s ev ga gc es ∧ Spares base (mkT tm) w w' ∧ (∀ b e cs, Blk wr b e cs → e ≠ 3 → Blk w' b e cs) := by
  obtain ⟨a', cap', w', hrun, ho, hg, _⟩ := run_pushI wr ty x _ rfl hown hn hS.size
  have ht := hown.typ
  refine ⟨a', cap', w', hrun, ho, h.other hg (fun r e => ⟨Nat.le_trans hB (ht r e).1, fun cs t fr hk => ?_⟩), hS.behind hg hB (fun r e => (ht r e).1), fun b e cs hb hne => hb.kept hg (fun e' => ?_)⟩
  · obtain ⟨_, cur, h2⟩ := ht r e
    rw [hk] at h2
    cases h2
    exact ⟨by decide, fun e => htm e.symm, by decide⟩
  · obtain ⟨_, cur, h2⟩ := ht b e'.symm
    unfold Blk at hb
    rw [h2] at hb
    cases hb
    exact hne rfl
theorem alt_cons (hd : Hd) (ks r : Fo) (f : Nat) (t : Bs) : (bF (.cons hd ks r)).alt f t = ((bE hd ks (grw f [] t).1 (grw f [] t).2).1 :: ((bF r).alt f (bE hd ks (grw f [] t).1 (grw f [] t).2).2).1, ((bF r).alt f (bE hd ks (grw f [] t).1 (grw f [] t).2).2).2) := rfl

end Go.Proofs.Ytngbfjimmdkfeaa

namespace Go.Proofs.Ytngbfjimmdkfeaa
open Go.RowKit Go.Shelf

attribute [local go_sem] Oper.semAt_some

end Go.Proofs.Ytngbfjimmdkfeaa

namespace Go.Proofs.Ytngbfjimmdkfeaa
open Go.RowKit Go.Shelf

attribute [local go_sem] Oper.semAt_some

end Go.Proofs.Ytngbfjimmdkfeaa

namespace Go.Proofs.Ytngbfjimmdkfeaa
open Go.RowKit Go.Shelf

attribute [local go_sem] Oper.semAt_some

/-- The error of the first that has one. -/
def errF : Fo → Int
  | .nil => 0
  | .cons h k r => if checkE (Fo.pre 1 (.cons h k .nil)) = 0 then errF r else checkE (Fo.pre 1 (.cons h k .nil))
/-- The ends, one after the other, and what was made. -/
def bL : Fo → Bs → List Nat × Bs
  | .nil, s => ([], s)
  | .cons h k r, s => ((bE h k 0 s).1 :: (bL r (bE h k 0 s).2).1, (bL r (bE h k 0 s).2).2)
def nf0 : Nf := ⟨0, 0, [], []⟩
/-- Build's answer. -/
def buildP (f : Fo) : Nf × Int :=
  if errF f = 0 then (if 1 + stF f ≤ 2000 then (⟨((bL f (1, [])).2.1 : Nat), 0, (bL f (1, [])).1.map (fun v : Nat => (v : Int)), (bL f (1, [])).2.2⟩, 0) else (nf0, 40)) else (nf0, errF f)
/-- An automaton as a value. -/
abbrev nfV (x : Nf) (p : NfL) : Value := .agg #[.int .i64 x.n, .int .i64 x.s, .slice p.ea x.ends.length p.ec, .slice p.ga x.es.length p.gc]
def BuQ (w : World) (r : Nf × Int) : Ending → World → Prop := fun e w' => (∃ p, e = .returned (.tuple #[nfV r.1 p, .int .i64 r.2]) ∧ NfAt w' r.1 p) ∧ Below w.heap.size w w'
theorem Ints.nil (w : World) : Ints w none 0 [] := ⟨by simp, by omega, fun _ => rfl, fun i h => by simp at h, fun b off e => by cases e⟩
theorem Egs.nil (w : World) : Egs w none 0 [] := ⟨by simp, by omega, fun _ => rfl, fun i h => by simp at h, fun b off e => by cases e⟩
theorem NfAt.zero (w : World) : NfAt w nf0 ⟨none, 0, none, 0⟩ := ⟨Ints.nil w, Egs.nil w⟩
theorem okF_err : ∀ (f : Fo), errF f = 0 → okF f := by
  intro f
  induction f with
  | nil => intro _; trivial
  | cons h k r _ ihr =>
    intro he
    unfold errF at he
    split at he
    · rename_i hc
      refine ⟨?_, ?_, ihr he⟩
      · have := hc
        unfold checkE at this
        split at this
        · rename_i ha
          simp only [Fo.pre, List.all_cons, Bool.and_eq_true] at ha
          exact ha.1
        · omega
      · have := hc
        unfold checkE at this
        split at this
        · rename_i ha
          simp only [Fo.pre, List.append_nil, List.all_cons, Bool.and_eq_true] at ha
          exact okF_of_pre k 2 ha.2
        · omega
    · rename_i hc; exact absurd he hc

theorem put4_grow (w : World) (B : Nat) (a' b' c' d' : Value) : w.grownBy ((((w.setCell ⟨B, 0, none⟩ a').setCell ⟨B, 1, none⟩ b').setCell ⟨B, 2, none⟩ c').setCell ⟨B, 3, none⟩ d') (some B) :=
  grownBy_trans (grownBy_trans (grownBy_trans (grownBy_set w B 0 a') (grownBy_set _ B 1 b') (fun i e => .inl e)) (grownBy_set _ B 2 c') (fun i e => .inl e)) (grownBy_set _ B 3 d') (fun i e => .inl e)
theorem OwnI.ints {w : World} {base n cap : Nat} {a : Option Addr} {l : List Nat} (h : OwnI w base a n cap l) : Ints w a cap (l.map (fun v : Nat => (v : Int))) := by
  have hn := h.len
  refine ⟨?_, ?_, ?_, fun i hi => ?_, fun b off e i hi => ?_⟩
  · rw [List.length_map]; rcases h.2 with ⟨e, e0⟩ | ⟨g, cap', cur, e, hb, hk, hnc, hcm, _⟩
    · injection e with e1 e2 e3; omega
    · injection e with e1 e2 e3; omega
  · rcases h.2 with ⟨e, e0⟩ | ⟨g, cap', cur, e, hb, hk, hnc, hcm, _⟩
    · injection e with e1 e2 e3; omega
    · injection e with e1 e2 e3; unfold maxLen at hcm; omega
  · intro ea; rcases h.2 with ⟨e, e0⟩ | ⟨g, cap', cur, e, _⟩
    · injection e with e1 e2 e3
    · injection e with e1 e2 e3; rw [ea] at e1; cases e1
  · rw [List.length_map] at hi
    obtain ⟨g, e, _⟩ := h.nth hi
    exact ⟨g, 0, e⟩
  · rw [List.length_map] at hi
    obtain ⟨g, e2, hc, _⟩ := h.nth hi
    rw [e] at e2
    cases e2
    rw [Nat.zero_add, hc, List.getElem_map]
theorem put4 {w : World} {B : Nat} {T : TypeId} {a b c d a' b' c' d' : Value} (h : Blk w B T [a, b, c, d]) :
    Blk ((((w.setCell ⟨B, 0, none⟩ a').setCell ⟨B, 1, none⟩ b').setCell ⟨B, 2, none⟩ c').setCell ⟨B, 3, none⟩ d') B T [a', b', c', d'] := by
  have := (((h.set 0 a').set 1 b').set 2 c').set 3 d'
  simpa using this
theorem put4_below {w w' : World} {B n : Nat} {a' b' c' d' : Value} (h : Below n w w') (hn : n ≤ B) :
    Below n w ((((w'.setCell ⟨B, 0, none⟩ a').setCell ⟨B, 1, none⟩ b').setCell ⟨B, 2, none⟩ c').setCell ⟨B, 3, none⟩ d') :=
  (((h.setCell (p := ⟨B, 0, none⟩) hn _).setCell (p := ⟨B, 1, none⟩) hn _).setCell (p := ⟨B, 2, none⟩) hn _).setCell (p := ⟨B, 3, none⟩) hn _
end Go.Proofs.Ytngbfjimmdkfeaa

