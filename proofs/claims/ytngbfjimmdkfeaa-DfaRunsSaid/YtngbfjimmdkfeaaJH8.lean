/- Texts joined: Hh Hj. -/
import Derived.Test.YtngbfjimmdkfeaaJH7
import Derived.OwnWalkIn
set_option linter.unusedVariables false
set_option linter.unusedSimpArgs false
namespace Go.Proofs.Ytngbfjimmdkfeaa
open Go.RowKit Go.Shelf Go.Maps

attribute [local go_sem] Oper.semAt_some

/-- An own row, and the block that names it. -/
structure RwAt (V : World) (bO base : Nat) (oa : Option Addr) (oc : Nat) (out : List Nat) : Prop where
  blk : Blk V bO 23 [.slice oa out.length oc]
  row : OwnI V base oa out.length oc out
section
variable {V V' : World} {bO base : Nat} {oa : Option Addr} {oc : Nat} {out : List Nat}
theorem RwAt.keptK {bad : Nat → Prop} (h : RwAt V bO base oa oc out) (hk : Kps bad V V') (h1 : ¬ bad bO) (h2 : ∀ g, obk oa = some g → ¬ bad g) : RwAt V' bO base oa oc out := by
  refine ⟨hk.blk h.blk h1, h.row.1, h.row.2.imp id ?_⟩
  rintro ⟨g, cap, cur, e1, e2, e3, e4⟩
  refine ⟨g, cap, cur, e1, e2, ?_, e4⟩
  rw [hk.block g (Array.getElem?_eq_some_iff.1 e3).1 (h2 g (by injection e1 with e1; rw [e1]; rfl))]
  exact e3
set_option maxRecDepth 100000 in
theorem RwAt.push (h : RwAt V bO base oa oc out) (st : Nat) (ty : TypeId) (hB : base ≤ V.heap.size) (hn : out.length + 1 ≤ 1099511627780) :
    ∃ a' c' w', (Builtin.append_ #[23, 23] ty #[.slice oa out.length oc, .slice (some ⟨V.heap.size, 0, none⟩) 1 1]).run Try.prog (V.alloc (.cells #[iv st] 3)) = .ok (.slice a' (out.length + 1) c') w' ∧
      Blk w' bO 23 [.slice oa out.length oc] ∧ RwAt (w'.setCell ⟨bO, 0, none⟩ (.slice a' (out.length + 1) c')) bO base a' c' (out ++ [st]) ∧ Kps (fun k => k = bO ∨ obk oa = some k) V (w'.setCell ⟨bO, 0, none⟩ (.slice a' (out.length + 1) c')) ∧ New V.heap.size oa a' := by
  obtain ⟨a', c', w', hrun, hown, hg, hnew⟩ := run_pushI V ty st (iv st) rfl h.row hn hB
  rw [ownBlock_obk] at hg
  have hob := h.row.obk_ne h.blk (by decide)
  have hob' : Blk w' bO 23 [.slice oa out.length oc] := h.blk.kept hg (fun e => hob e.symm)
  have ha' : obk a' ≠ some bO := by
    intro e
    obtain ⟨_, cur, h1⟩ := OwnI.obk_typ (show OwnI w' base a' (out.length + 1) c' (out ++ [st]) from hown) e
    unfold Blk at hob'
    rw [h1] at hob'
    cases hob'
  have hg2 := grownBy_set w' bO 0 (.slice a' (out.length + 1) c')
  refine ⟨a', c', w', hrun, hob', ⟨?_, ?_⟩, (kps_grown hg).trans (kps_grown hg2) (fun i e => .inr e) (fun i e _ => .inl (by injection e with e; exact e.symm)), hnew⟩
  · have := hob'.set 0 (.slice a' (out.length + 1) c')
    rw [List.length_append]
    exact this
  · rw [List.length_append]
    exact OwnI.kept hown hg2 (.inr ha')
end
/-- Where a byte leads. -/
def bstep (x : Nf) (c a b : Nat) : Prop := ∃ e ∈ x.es, inSp e.q c = true ∧ e.f = (a : Int) ∧ e.t = (b : Int)
theorem Rn.congr {x : Nf} {S T : Nat → Prop} (h : ∀ a, S a ↔ T a) (a : Nat) : Rn x S a ↔ Rn x T a :=
  ⟨Rn.closed (fun a ha => .base ((h a).1 ha)) (fun a b ha hb => .step ha hb), Rn.closed (fun a ha => .base ((h a).2 ha)) (fun a b ha hb => .step ha hb)⟩
end Go.Proofs.Ytngbfjimmdkfeaa

namespace Go.Proofs.Ytngbfjimmdkfeaa
open Go.RowKit Go.Shelf Go.Maps

attribute [local go_sem] Oper.semAt_some

theorem dlenN (s : ByteArray) : s.data.toList.length = s.size := by rw [Array.length_toList]; rfl
/-- Where a text leads from closed states. -/
def RcS (x : Nf) : List UInt8 → (Nat → Prop) → Nat → Prop
  | [], S => S
  | c :: r, S => RcS x r (Rn x (fun b => ∃ a, S a ∧ bstep x c.toNat a b))
/-- Where a text leads from Start. -/
def Rc (x : Nf) (s : List UInt8) : Nat → Prop := RcS x s (Rn x (fun a => (a : Int) = x.s))
theorem RcS.congr {x : Nf} : ∀ (r : List UInt8) {S T : Nat → Prop}, (∀ a, S a ↔ T a) → ∀ a, RcS x r S a ↔ RcS x r T a
  | [], _, _, h => h
  | c :: r, S, T, h => RcS.congr r (Rn.congr (fun b => ⟨fun ⟨a, h1, h2⟩ => ⟨a, (h a).1 h1, h2⟩, fun ⟨a, h1, h2⟩ => ⟨a, (h a).2 h1, h2⟩⟩))
theorem Rn.none {x : Nf} {S : Nat → Prop} (h : ∀ a, ¬ S a) : ∀ a, ¬ Rn x S a := fun a ha => by
  have : ∀ {a}, Rn x S a → False := fun {a} h' => by
    induction h' with
    | base h1 => exact h _ h1
    | step _ _ ih => exact ih
  exact this ha
theorem RcS.none {x : Nf} : ∀ (r : List UInt8) {S : Nat → Prop}, (∀ a, ¬ S a) → ∀ a, ¬ RcS x r S a
  | [], _, h => h
  | c :: r, S, h => RcS.none r (Rn.none (fun b ⟨a, h1, _⟩ => h a h1))
open Classical in
/-- Which ends a text leads to. -/
noncomputable def runP (x : Nf) (s : List UInt8) : List Nat := (List.range x.ends.length).filter (fun i => decide (∃ a : Nat, Rc x s a ∧ x.ends[i]? = some (a : Int)))
open Classical in
theorem filter_snoc (p : Nat → Prop) (k : Nat) : (List.range (k + 1)).filter (fun i => decide (p i)) = (List.range k).filter (fun i => decide (p i)) ++ (if p k then [k] else []) := by
  rw [List.range_succ, List.filter_append]
  congr 1
  by_cases h : p k <;> simp [h]
theorem link_ends2 {x : Nf} (h : linkB x = true) {i : Nat} (hi : i < x.ends.length) : ∃ a : Nat, x.ends[i] = (a : Int) ∧ a < x.n.toNat := by
  unfold linkB at h
  simp only [Bool.and_eq_true, List.all_eq_true] at h
  have := h.1.2 _ (List.getElem_mem hi)
  unfold stB at this
  simp only [Bool.and_eq_true, decide_eq_true_eq] at this
  exact ⟨x.ends[i].toNat, by omega, by omega⟩
theorem link_start {x : Nf} (h : linkB x = true) : ∃ a : Nat, x.s = (a : Int) ∧ a < x.n.toNat := by
  unfold linkB stB at h
  simp only [Bool.and_eq_true, decide_eq_true_eq] at h
  exact ⟨x.s.toNat, by omega, by omega⟩

end Go.Proofs.Ytngbfjimmdkfeaa

