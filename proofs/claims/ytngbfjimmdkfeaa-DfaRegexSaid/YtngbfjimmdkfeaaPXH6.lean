/- Texts joined: Hf. -/
import Derived.Test.YtngbfjimmdkfeaaPXH3
import Derived.Test.YtngbfjimmdkfeaaPXH5
import Derived.RangeFuncRecord
set_option linter.unusedVariables false
set_option linter.unusedSimpArgs false
namespace Go.Proofs.Ytngbfjimmdkfeaa
open Go.RowKit Go.Shelf Go.Maps

/-- The deferred calls are marks of loops over functions, apart from each other; none has anything to call. -/
def Marks : List Deferred → World → Prop
  | [], _ => True
  | d :: ds, w => (∃ r, d = { target := .collected r, args := #[] } ∧ w.heap[r]? = some (.deferred (some [])) ∧ ∀ e ∈ ds, e.target ≠ .collected r) ∧ Marks ds w
/-- The block of a mark. -/
def isMark (ds : List Deferred) (k : Nat) : Prop := ∃ d ∈ ds, d.target = .collected k
theorem Marks.obj : ∀ {ds : List Deferred} {w : World} {k : Nat}, Marks ds w → isMark ds k → w.heap[k]? = some (.deferred (some []))
  | d :: ds, w, k, ⟨⟨r, e, h1, h2⟩, h⟩, ⟨d', hd, hk⟩ => by
    rcases List.mem_cons.1 hd with rfl | hd
    · rw [e] at hk
      simp only [Target.collected.injEq] at hk
      rw [← hk]; exact h1
    · exact Marks.obj h ⟨d', hd, hk⟩
theorem Marks.keptK {bad : Nat → Prop} : ∀ {ds : List Deferred} {w w' : World}, Marks ds w → Kps bad w w' → (∀ k, isMark ds k → ¬ bad k) → Marks ds w'
  | [], _, _, _, _, _ => trivial
  | d :: ds, w, w', ⟨⟨r, e, h1, h2⟩, h⟩, hk, hb => by
    refine ⟨⟨r, e, ?_, h2⟩, Marks.keptK h hk (fun k ⟨d', h3, h4⟩ => hb k ⟨d', List.mem_cons_of_mem _ h3, h4⟩)⟩
    exact (hk.block r (Array.getElem?_eq_some_iff.1 h1).1 (hb r ⟨d, List.mem_cons_self, by rw [e]⟩)).trans h1
theorem Marks.push {ds : List Deferred} {w : World} {D : Nat} (h : Marks ds w) (hD : w.heap[D]? = some (.deferred (some []))) (hn : ¬ isMark ds D) : Marks ({ target := .collected D, args := #[] } :: ds) w :=
  ⟨⟨D, rfl, hD, fun e he h1 => hn ⟨e, he, h1⟩⟩, h⟩
theorem leaves_marks {F : Fence} {n : Nat} {P : Program} {fn : Func} {tmps : Array Value} {R : Ending → World → Prop} : ∀ (ds : List Deferred) (w : World), Marks ds w →
    (∀ w', Kps (isMark ds) w w' → LeavesInM F n P fn tmps R [] .returning w') → LeavesInM F n P fn tmps R ds .returning w
  | [], w, _, H => H w (Kps.refl _ w)
  | d :: ds, w, ⟨⟨r, e, h1, h2⟩, h⟩, H => by
    refine ⟨by simp, .inl ⟨r, _, by rw [e], run_takeDeferred h1, ?_⟩⟩
    have hg := grownBy_putObj' w r (.deferred none)
    have hk := kps_grown hg
    refine leaves_marks ds _ (h.keptK hk (fun k ⟨d', h3, h4⟩ e' => h2 d' h3 (by injection e' with e'; rw [e', h4]))) (fun w' hw' => H w' ?_)
    refine hk.trans hw' (fun i e' => ⟨d, List.mem_cons_self, by injection e' with e'; rw [e, e']⟩) (fun i ⟨d', h3, h4⟩ _ => ⟨d', List.mem_cons_of_mem _ h3, h4⟩)

/-- A slice of states reads as these. -/
abbrev IntsN (w : World) (a : Option Addr) (cap : Nat) (l : List Nat) : Prop := Ints w a cap (l.map (fun v : Nat => (v : Int)))
theorem Ints.keptK {bad : Nat → Prop} {w w' : World} {a : Option Addr} {cap : Nat} {l : List Int} (h : Ints w a cap l) (hk : Kps bad w w') (hn : ∀ b off, a = some ⟨b, off, none⟩ → l ≠ [] → ¬ bad b) : Ints w' a cap l :=
  ⟨h.le, h.max, h.nil_, h.at_, fun b off e i hi => by
    have hc := h.cell b off e i hi
    have hlt := World.block_lt_of_cell? w _ hc
    exact (World.cell?_of_block (a := ⟨b, off + i, none⟩) (hk.block b hlt (hn b off e (by intro e0; rw [e0] at hi; exact absurd hi (Nat.not_lt_zero _))))).trans hc⟩
/-- Where a state leads by none. -/
def nstep (x : Nf) (a b : Nat) : Prop := ∃ e ∈ x.es, e.q = [] ∧ e.f = (a : Int) ∧ e.t = (b : Int)
/-- What edges by none lead to, any times. -/
inductive Rn (x : Nf) (S : Nat → Prop) : Nat → Prop
  | base {a : Nat} : S a → Rn x S a
  | step {a b : Nat} : Rn x S a → nstep x a b → Rn x S b
theorem Rn.closed {x : Nf} {S C : Nat → Prop} (h0 : ∀ a, S a → C a) (h1 : ∀ a b, C a → nstep x a b → C b) : ∀ {a : Nat}, Rn x S a → C a
  | _, .base h => h0 _ h
  | _, .step h k => h1 _ _ (Rn.closed h0 h1 h) k
theorem nodup_len : ∀ (N : Nat) (l : List Nat), l.Nodup → (∀ a ∈ l, a < N) → l.length ≤ N
  | 0, [], _, _ => Nat.le_refl _
  | 0, a :: l, _, h => absurd (h a List.mem_cons_self) (Nat.not_lt_zero _)
  | N + 1, l, hn, h => by
    by_cases hm : N ∈ l
    · have := nodup_len N (l.erase N) (hn.erase _) (fun a ha => by
        have h1 := h a (List.mem_of_mem_erase ha)
        have h2 := (hn.mem_erase_iff.1 ha).1
        omega)
      have e := List.length_erase_of_mem hm
      omega
    · have := nodup_len N l hn (fun a ha => by
        have h1 := h a ha
        have : a ≠ N := fun e => hm (e ▸ ha)
        omega)
      omega
theorem link_ends {x : Nf} (h : linkB x = true) {e : Eg} (he : e ∈ x.es) : (∃ a : Nat, e.f = (a : Int) ∧ a < x.n.toNat) ∧ (∃ b : Nat, e.t = (b : Int) ∧ b < x.n.toNat) := by
  unfold linkB at h
  simp only [Bool.and_eq_true, List.all_eq_true] at h
  have := h.2 e he
  unfold stB at this
  simp only [Bool.and_eq_true, decide_eq_true_eq] at this
  exact ⟨⟨e.f.toNat, by omega, by omega⟩, ⟨e.t.toNat, by omega, by omega⟩⟩
theorem link_n {x : Nf} (h : linkB x = true) : x.n = (x.n.toNat : Int) ∧ x.n.toNat ≤ 2000 ∧ 1 ≤ x.n.toNat := by
  unfold linkB stB at h
  simp only [Bool.and_eq_true, decide_eq_true_eq] at h
  omega
/-- What is behind a state, as numbers. -/
theorem mem_behind {x : Nf} (P : Eg → Bool) (a : Nat) (t : Int) : t ∈ behE x.es P (a : Int) x.es.length ↔ ∃ e ∈ x.es, e.f = (a : Int) ∧ P e = true ∧ e.t = t := by
  rw [mem_behE]
  constructor
  · rintro ⟨i, hi, h1, h2, h3⟩
    rw [egAt_eq hi] at h1 h2 h3
    exact ⟨_, List.getElem_mem hi, h1, h2, h3⟩
  · rintro ⟨e, he, h1, h2, h3⟩
    obtain ⟨i, hi, rfl⟩ := List.mem_iff_getElem.1 he
    exact ⟨i, hi, by rw [egAt_eq hi]; exact h1, by rw [egAt_eq hi]; exact h2, by rw [egAt_eq hi]; exact h3⟩
/-- The round is one more. -/
theorem WkAt.setRound {w0 W : World} {wb : Nat} {x : Nf} {p : NfL} {L : WkL} {R : Int} {mn : Nat} {m : Nat → Int} (h : WkAt w0 W wb x p L R mn m) (R' : Int) : WkAt w0 (W.setCell ⟨wb, 3, none⟩ (.int .i64 R')) wb x p L R' mn m := by
  have hg := grownBy_set W wb 3 (.int .i64 R')
  have n1 : ¬ L.fb = wb := blk_ne h.first h.box (by decide)
  have n2 : ¬ L.nb = wb := blk_ne h.next h.box (by decide)
  have n3 := h.mp.ne_blk h.box
  exact ⟨h.box.set 3 _, h.first.setOther n1 _, h.next.setOther n2 _, h.mp.kept (row := some wb) hg (fun e => n3 (by injection e)), h.es, h.bel.setCell (p := ⟨wb, 3, none⟩) h.own.1 _, h.own⟩
end Go.Proofs.Ytngbfjimmdkfeaa

