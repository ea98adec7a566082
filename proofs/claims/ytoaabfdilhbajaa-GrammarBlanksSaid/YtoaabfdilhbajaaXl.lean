/- Layer 7: Parse, plainly; the reader in a range. -/
import Derived.Test.YtoaabfdilhbajaaXh
import Derived.Test.YtoaabfdilhbajaaXj
import Derived.Test.YtoaabfdilhbajaaXk
namespace Go.Proofs.Ytoaabfdilhbajaa
open Go.RowKit Go.Shelf

/-- The words taken one after the other: what was read, or where it gave up. -/
def foldP : Rst → List (Nat × ByteArray) → Except Nat Rst
  | st, [] => .ok st
  | st, x :: r => match takeP st x.2 with
    | none => .error x.1
    | some st' => foldP st' r
theorem foldP_ok : ∀ (l r : List (Nat × ByteArray)) (s t : Rst), foldP s l = .ok t → foldP s (l ++ r) = foldP t r
  | [], r, s, t, h => by cases h; rfl
  | x :: l, r, s, t, h => by
    rw [List.cons_append, foldP]
    rw [foldP] at h
    split at h
    · cases h
    · rename_i st' e
      exact foldP_ok l r st' t h
theorem foldP_err : ∀ (l r : List (Nat × ByteArray)) (s : Rst) (n : Nat), foldP s l = .error n → foldP s (l ++ r) = .error n
  | [], r, s, n, h => by cases h
  | x :: l, r, s, n, h => by
    rw [List.cons_append, foldP]
    rw [foldP] at h
    split at h
    · exact h
    · rename_i st' e
      exact foldP_err l r st' n h
def longP (g : List Rl) : Bool := decide (60 < g.length) || g.any (fun r => decide (30 < r.2.length) || r.2.any (fun a => decide (30 < a.length)))
theorem any_congr {α : Type} {p q : α → Bool} : ∀ {l : List α}, (∀ x ∈ l, p x = q x) → l.any p = l.any q
  | [], _ => rfl
  | x :: l, h => by rw [List.any_cons, List.any_cons, h x List.mem_cons_self, any_congr (fun y hy => h y (List.mem_cons_of_mem _ hy))]
theorem long_is (rs : List RlD) : longG rs = longP (grP rs) := by
  unfold longG longP grP
  rw [List.length_map, List.any_map]
  congr 1
  refine any_congr (fun r _ => ?_)
  simp only [longR, Function.comp, RlD.p, List.length_map, List.any_map]
  congr 1
/-- What the end comes to. -/
def parseT (n : Nat) : Except Nat Rst → List Rl × Nat × Int
  | .error k => ([], k, 70)
  | .ok st => if st.place ≠ 0 ∨ st.rules = [] then ([], n, 70) else if longP st.rules then ([], 0, 2) else (st.rules, 0, 0)
/-- Parse's answer: the rules, the place, the error. -/
def parseP (s : ByteArray) : List Rl × Nat × Int :=
  if 4096 < s.size then ([], 0, 2) else parseT s.size (foldP ⟨[], 0⟩ (wordsP s))
/-- What Parse comes to. -/
def PaQ (w : World) (r : List Rl × Nat × Int) : Ending → World → Prop := fun e w' =>
  ∃ rs a cap, e = .returned (.tuple #[.agg #[.slice a rs.length cap], .int .i64 (r.2.1 : Int), .int .i64 r.2.2]) ∧ grP rs = r.1 ∧ Rls w' a cap rs ∧ Below w.heap.size w w'

theorem own_kept_nc {w w' : World} {base size n cap : Nat} {e : TypeId} {a : Option Addr} {xs : List Value} {row : Option Nat} (h : w.ownsRow base e size (.slice a n cap) n xs) (hg : w.grownBy w' row) (hrow : ∀ g, row = some g → ∃ o, w.heap[g]? = some o ∧ o.isCells = false) : w'.ownsRow base e size (.slice a n cap) n xs := by
  rcases h0 : (Value.slice a n cap).ownBlock with _ | k
  · exact h.kept hg (.inl h0)
  · refine h.kept hg (.inr (fun e0 => ?_))
    rw [h0] at e0
    obtain ⟨o, ho, hc⟩ := hrow k e0.symm
    obtain ⟨_, cur, h2⟩ := own_typ h k h0
    rw [ho] at h2
    cases h2
    cases hc
theorem RdAt.nc {w w' : World} {B rb place rc : Nat} {rs : List RlD} {ra : Option Addr} {row : Option Nat} (h : RdAt w B rb rs place ra rc) (hg : w.grownBy w' row) (hrow : ∀ g, row = some g → ∃ o, w.heap[g]? = some o ∧ o.isCells = false) : RdAt w' B rb rs place ra rc := by
  have hd : ∀ {b m : Nat} {d : AltD}, DoneA w b m d → DoneA w' b m d := fun hd => ⟨own_kept_nc hd.own hg hrow, hd.lo⟩
  refine ⟨h.box.kept hg (fun e => ?_), Nat.le_trans h.bl hg.size, own_kept_nc h.row hg hrow, h.last.imp id ?_⟩
  · obtain ⟨o, ho, hc⟩ := hrow rb e.symm
    rw [h.box_heap] at ho
    cases ho
    cases hc
  · rintro ⟨m1, m2, qs, r, h1, h2, h3, h4, h5, h6⟩
    exact ⟨m1, m2, qs, r, h1, h2, Nat.le_trans h3 hg.size, h4, fun q hq => ⟨own_kept_nc (h5 q hq).own hg hrow, (h5 q hq).lo, fun d hd' => hd ((h5 q hq).alts d hd')⟩,
      ⟨own_kept_nc h6.own hg hrow, h6.alts.imp id (fun ⟨ds, d, e, k1, k2⟩ => ⟨ds, d, e, fun x hx => hd (k1 x hx), own_kept_nc k2 hg hrow⟩)⟩⟩
/-- A row that is one's own lies as a row. -/
theorem own_vs {w : World} {base n cap : Nat} {e : TypeId} {a : Option Addr} {xs : List Value} (h : w.ownsRow base e 1 (.slice a n cap) n xs) : Vs w a cap xs := by
  have hn : xs.length = n := by have := h.1; omega
  rcases h.2 with ⟨e1, e0⟩ | ⟨g, cp, cur, e1, hb, hk, hnc, hcm, _⟩
  · injection e1 with e1 e2 e3
    exact ⟨by omega, by omega, fun _ => e3, fun i hi => by omega, fun b off e => (by rw [e1] at e; cases e)⟩
  · injection e1 with e1 e2 e3
    refine ⟨by omega, by unfold maxLen at hcm; omega, fun e => (by rw [e1] at e; cases e), fun i hi => ⟨g, 0, e1⟩, fun b off e i hi => ?_⟩
    rw [e1] at e
    cases e
    subst e1
    have := World.ownsRow.cellAt h i (by omega)
    rw [Nat.zero_add, this]
    exact List.getElem?_eq_getElem hi
theorem cells_at : ∀ (rs : List RlD) (i : Nat) (hi : i < rs.length), (rs.flatMap RlD.cells)[i * 2]? = some (.string rs[i].n) ∧ (rs.flatMap RlD.cells)[i * 2 + 1]? = some (.slice rs[i].a rs[i].ds.length rs[i].c)
  | [], i, hi => by simp at hi
  | r :: rs, 0, hi => by simp [RlD.cells]
  | r :: rs, i + 1, hi => by
    have := cells_at rs i (by simpa using hi)
    rw [List.flatMap_cons, show (i + 1) * 2 = i * 2 + 2 by omega, show i * 2 + 2 + 1 = (i * 2 + 1) + 2 by omega]
    rw [List.getElem?_append_right (by simp [RlD.cells]), List.getElem?_append_right (by simp [RlD.cells])]
    simpa [RlD.cells] using this
/-- What was read lies as a grammar's rules. -/
theorem RdAt.rls {w : World} {B rb place rc : Nat} {rs : List RlD} {ra : Option Addr} (h : RdAt w B rb rs place ra rc) : Rls w ra rc rs := by
  have ha : ∀ r ∈ rs, Alts w r.a r.c r.ds := by
    have hD : ∀ {b m : Nat} {r : RlD}, DoneR w b m r → Alts w r.a r.c r.ds := fun hd => ⟨own_vs hd.own, fun d hd' => own_vs (hd.alts d hd').own⟩
    intro r hr
    rcases h.last with e | ⟨m1, m2, qs, r', h1, h2, h3, h4, h5, h6⟩
    · rw [e] at hr; cases hr
    · rw [h4] at hr
      rcases List.mem_append.1 hr with hr | hr
      · exact hD (h5 r hr)
      · rw [List.mem_singleton.1 hr]
        exact hD (h6.done h1 h2 h3)
  have hr := h.row
  rcases hr.2 with ⟨e1, e0⟩ | ⟨g, cp, cur, e1, hb, hk, hnc, hcm, _⟩
  · injection e1 with e1 e2 e3
    exact ⟨by omega, by omega, fun _ => e3, fun i hi => by omega, fun b off e => (by rw [e1] at e; cases e), ha⟩
  · injection e1 with e1 e2 e3
    refine ⟨by omega, by unfold maxLen at hcm; omega, fun e => (by rw [e1] at e; cases e), fun i hi => ⟨g, 0, e1⟩, fun b off e i hi => ?_, ha⟩
    rw [e1] at e
    cases e
    subst e1
    obtain ⟨q1, q2⟩ := cells_at rs i hi
    rw [Nat.zero_add]
    exact ⟨(World.ownsRow.cellAt hr (i * 2) (by omega)).trans q1, (World.ownsRow.cellAt hr (i * 2 + 1) (by omega)).trans q2⟩
end Go.Proofs.Ytoaabfdilhbajaa
