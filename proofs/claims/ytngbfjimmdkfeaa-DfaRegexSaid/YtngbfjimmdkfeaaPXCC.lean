/- The row DfaRegex: for every list of expressions and every text: made an automaton, and then one with one way, the text comes to the first expression that it matches: the law answers true and changes nothing that was there; no premise beyond the row's own. -/
/- Texts joined: Cd Ce Cg Ch PDx. -/
import Derived.Test.YtngbfjimmdkfeaaPXK2
import Derived.Test.YtngbfjimmdkfeaaPXDA
import Derived.Test.YtngbfjimmdkfeaaPXDF
import Derived.Test.YtngbfjimmdkfeaaPXDG
import Derived.Test.YtngbfjimmdkfeaaPXYh
import Derived.Test.YtngbfjimmdkfeaaPXNm
import Derived.Test.YtngbfjimmdkfeaaPXDB
import Derived.Test.YtngbfjimmdkfeaaPXD3
import Derived.Test.YtngbfjimmdkfeaaPXK3
import Derived.Test.YtngbfjimmdkfeaaPXAr
set_option linter.unusedVariables false
set_option linter.unusedSimpArgs false
namespace Go.Proofs.Ytngbfjimmdkfeaa
open Go.RowKit

abbrev ApB (g h : Eg) : Prop := g.q ≠ [] → h.q ≠ [] → g.f ≠ h.f
/-- What is made from a state. -/
def MkB (f : Nat) (s : Bs) (r : Nat × Bs) : Prop := ∃ m : List Eg, r.2.2 = s.2 ++ m ∧ s.1 ≤ r.2.1 ∧ (∀ g ∈ m, ∃ t : Nat, g.t = (t : Int) ∧ s.1 ≤ t) ∧ m.Pairwise ApB ∧ (∀ g ∈ m, g.q ≠ [] → ∃ a : Nat, g.f = (a : Int) ∧ a < r.2.1 ∧ a ≠ r.1 ∧ (a = f ∨ s.1 ≤ a)) ∧ r.1 < r.2.1 ∧ ((r.1 = f ∧ m = []) ∨ s.1 ≤ r.1)
def MkA (s : Bs) (s' : Bs) : Prop := ∃ m : List Eg, s'.2 = s.2 ++ m ∧ s.1 ≤ s'.1 ∧ (∀ g ∈ m, ∃ t : Nat, g.t = (t : Int) ∧ s.1 ≤ t) ∧ m.Pairwise ApB ∧ ∀ g ∈ m, g.q ≠ [] → ∃ a : Nat, g.f = (a : Int) ∧ s.1 ≤ a ∧ a < s'.1
theorem mkB_id {f : Nat} {s : Bs} (h : f < s.1) : MkB f s (f, s) := ⟨[], by simp, Nat.le_refl _, fun g hg => (by cases hg), List.Pairwise.nil, fun g hg => (by cases hg), h, .inl ⟨rfl, rfl⟩⟩
theorem mkB_grw {f : Nat} {s : Bs} (q : List Sp) (h : f < s.1) : MkB f s (grw f q s) := by
  refine ⟨[⟨(f : Int), (s.1 : Int), q⟩], rfl, Nat.le_succ _, fun g hg => ?_, List.pairwise_singleton _ _, fun g hg _ => ?_, Nat.lt_succ_self _, .inr (Nat.le_refl _)⟩
  · rw [List.mem_singleton] at hg
    subst hg
    exact ⟨s.1, rfl, Nat.le_refl _⟩
  · rw [List.mem_singleton] at hg
    subst hg
    exact ⟨f, rfl, Nat.lt_succ_of_lt h, by show f ≠ s.1; omega, .inl rfl⟩
theorem mkB_seq {f : Nat} {s : Bs} {r1 r2 : Nat × Bs} (h0 : f < s.1) (h : MkB f s r1) (k : MkB r1.1 r1.2 r2) : MkB f s r2 := by
  obtain ⟨m, a1, a2, a3, a4, a5, a6, a7⟩ := h
  obtain ⟨n, b1, b2, b3, b4, b5, b6, b7⟩ := k
  refine ⟨m ++ n, by rw [b1, a1, List.append_assoc], by omega, fun g hg => ?_, ?_, fun g hg hq => ?_, b6, ?_⟩
  · rcases List.mem_append.1 hg with hg | hg
    · exact a3 g hg
    · obtain ⟨t, h1, h2⟩ := b3 g hg
      exact ⟨t, h1, by omega⟩
  · refine List.pairwise_append.2 ⟨a4, b4, fun g hg h hh q1 q2 e => ?_⟩
    obtain ⟨x, x1, x2, x3, x4⟩ := a5 g hg q1
    obtain ⟨y, y1, y2, y3, y4⟩ := b5 h hh q2
    have hxy : x = y := by omega
    subst hxy
    rcases y4 with y4 | y4
    · exact x3 y4
    · omega
  · rcases List.mem_append.1 hg with hg | hg
    · obtain ⟨x, x1, x2, x3, x4⟩ := a5 g hg hq
      refine ⟨x, x1, by omega, ?_, x4⟩
      rcases b7 with ⟨e, _⟩ | e
      · rw [e]; exact x3
      · omega
    · obtain ⟨y, y1, y2, y3, y4⟩ := b5 g hg hq
      refine ⟨y, y1, y2, y3, ?_⟩
      rcases y4 with y4 | y4
      · rcases a7 with ⟨e, _⟩ | e
        · exact .inl (by rw [y4, e])
        · exact .inr (by omega)
      · exact .inr (by omega)
  · rcases b7 with ⟨e, en⟩ | e
    · rcases a7 with ⟨e2, em⟩ | e2
      · exact .inl ⟨by rw [e, e2], by rw [em, en]; rfl⟩
      · exact .inr (by omega)
    · exact .inr (by omega)
/-- An edge by none more. -/
theorem mkB_lnk {f : Nat} {s : Bs} {r : Nat × Bs} (h : MkB f s r) (x t : Nat) (ht : s.1 ≤ t) (he : s.1 ≤ r.1) : MkB f s (r.1, lnk x t [] r.2) := by
  obtain ⟨m, a1, a2, a3, a4, a5, a6, a7⟩ := h
  refine ⟨m ++ [⟨(x : Int), (t : Int), []⟩], by simp [lnk, a1], a2, fun g hg => ?_, ?_, fun g hg hq => ?_, a6, .inr he⟩
  · rcases List.mem_append.1 hg with hg | hg
    · exact a3 g hg
    · rw [List.mem_singleton] at hg
      subst hg
      exact ⟨t, rfl, ht⟩
  · refine List.pairwise_append.2 ⟨a4, List.pairwise_singleton _ _, fun g hg h hh q1 q2 => ?_⟩
    rw [List.mem_singleton] at hh
    subst hh
    exact absurd rfl q2
  · rcases List.mem_append.1 hg with hg | hg
    · exact a5 g hg hq
    · rw [List.mem_singleton] at hg
      subst hg
      exact absurd rfl hq
/-- A new end, by none. -/
theorem mkB_new {f : Nat} {s s' : Bs} {m : List Eg} (x : Nat) (a1 : s'.2 = s.2 ++ m) (a2 : s.1 ≤ s'.1) (a3 : ∀ g ∈ m, ∃ t : Nat, g.t = (t : Int) ∧ s.1 ≤ t) (a4 : m.Pairwise ApB) (a5 : ∀ g ∈ m, g.q ≠ [] → ∃ a : Nat, g.f = (a : Int) ∧ a < s'.1 ∧ (a = f ∨ s.1 ≤ a)) : MkB f s (grw x [] s') := by
  refine ⟨m ++ [⟨(x : Int), (s'.1 : Int), []⟩], by simp [grw, a1], by show s.1 ≤ s'.1 + 1; omega, fun g hg => ?_, ?_, fun g hg hq => ?_, Nat.lt_succ_self _, .inr a2⟩
  · rcases List.mem_append.1 hg with hg | hg
    · exact a3 g hg
    · rw [List.mem_singleton] at hg
      subst hg
      exact ⟨s'.1, rfl, a2⟩
  · refine List.pairwise_append.2 ⟨a4, List.pairwise_singleton _ _, fun g hg h hh q1 q2 => ?_⟩
    rw [List.mem_singleton] at hh
    subst hh
    exact absurd rfl q2
  · rcases List.mem_append.1 hg with hg | hg
    · obtain ⟨a, h1, h2, h3⟩ := a5 g hg hq
      exact ⟨a, h1, Nat.lt_succ_of_lt h2, by show a ≠ s'.1; omega, h3⟩
    · rw [List.mem_singleton] at hg
      subst hg
      exact absurd rfl hq
theorem mkB_then {f : Nat} {s : Bs} {r : Nat × Bs} (x : Nat) (h : MkB f s r) : MkB f s (grw x [] r.2) := by
  obtain ⟨m, a1, a2, a3, a4, a5, a6, a7⟩ := h
  exact mkB_new x a1 a2 a3 a4 (fun g hg hq => by
    obtain ⟨a, h1, h2, _, h4⟩ := a5 g hg hq
    exact ⟨a, h1, h2, h4⟩)
theorem mkB_all {f : Nat} {s : Bs} {r : Nat × Bs} (h : MkB f s r) (he : s.1 ≤ r.1) : ∀ (l : List Nat) , MkB f s (r.1, lnkAll r.1 l r.2) := fun l => by
  obtain ⟨e, t⟩ := r
  dsimp only at *
  induction l generalizing t with
  | nil => exact h
  | cons x l ih => exact ih (lnk x e [] t) (mkB_lnk h x e he he)
theorem mkB_alt {f : Nat} {s : Bs} {r : List Nat × Bs} (h : MkA s r.2) (hne : r.1 ≠ []) : MkB f s (altEnd r) := by
  obtain ⟨l, t⟩ := r
  cases l with
  | nil => exact absurd rfl hne
  | cons x l =>
    obtain ⟨m, a1, a2, a3, a4, a5⟩ := h
    have h1 : MkB f s (grw x [] t) := mkB_new x a1 a2 a3 a4 (fun g hg hq => by
      obtain ⟨a, h1, h2, h3⟩ := a5 g hg hq
      exact ⟨a, h1, h3, .inr h2⟩)
    exact mkB_all h1 a2 l
theorem mkB_ge {f : Nat} {s : Bs} {r1 r2 : Nat × Bs} (h1 : s.1 ≤ r1.1) (h2 : s.1 ≤ r1.2.1) (k : MkB r1.1 r1.2 r2) : s.1 ≤ r2.1 := by
  obtain ⟨n, b1, b2, b3, b4, b5, b6, b7⟩ := k
  rcases b7 with ⟨e, _⟩ | e
  · rw [e]; exact h1
  · omega
theorem mkB_loop {g : Nat → Bs → Nat × Bs} (hg : ∀ a s, a < s.1 → MkB a s (g a s)) {f : Nat} {s : Bs} (h : f < s.1) (x : Nat × Nat → Nat) : MkB f s (grw (x (bLoop g f s).1) [] (bLoop g f s).2) := by
  have h1 := mkB_grw [] h
  have h2 := hg (grw f [] s).1 (grw f [] s).2 (Nat.lt_succ_self _)
  have h3 := mkB_seq h h1 h2
  have h4 : s.1 ≤ (g (grw f [] s).1 (grw f [] s).2).1 := mkB_ge (f := f) (Nat.le_refl _) (Nat.le_succ _) h2
  exact mkB_then _ (mkB_lnk h3 _ (grw f [] s).1 (Nat.le_refl _) h4)
theorem mkB_opt {g : Nat → Bs → Nat × Bs} (hg : ∀ a s, a < s.1 → MkB a s (g a s)) {f : Nat} {s : Bs} (h : f < s.1) : MkB f s (bOpt g f s) := by
  have h1 := mkB_grw [] h
  have h2 := hg (grw f [] s).1 (grw f [] s).2 (Nat.lt_succ_self _)
  have h3 := mkB_then (g (grw f [] s).1 (grw f [] s).2).1 (mkB_seq h h1 h2)
  have h5 : s.1 ≤ (g (grw f [] s).1 (grw f [] s).2).2.1 := by
    obtain ⟨n, b1, b2, _⟩ := h2
    have : (grw f [] s).2.1 = s.1 + 1 := rfl
    omega
  exact mkB_lnk h3 f _ h5 h5
theorem bX_mkB {h : Hd} {K : Bk} (hc : ∀ a s, a < s.1 → MkB a s (K.cat a s)) (ha : h.k = 4 → ∀ a s, a < s.1 → MkA s (K.alt a s).2 ∧ (K.alt a s).1 ≠ []) (hf : ∀ a s, a < s.1 → MkB a s (K.fst a s)) {f : Nat} {s : Bs} (h0 : f < s.1) : MkB f s (bX h K f s) := by
  unfold bX
  by_cases h3 : h.k = 3
  · rw [if_pos h3]; exact hc f s h0
  rw [if_neg h3]
  by_cases h4 : h.k = 4
  · rw [if_pos h4]
    obtain ⟨h5, h6⟩ := ha h4 f s h0
    exact mkB_alt h5 h6
  rw [if_neg h4]
  by_cases h5 : h.k = 5
  · rw [if_pos h5]; exact mkB_loop hf h0 (fun p => p.1)
  rw [if_neg h5]
  by_cases h6 : h.k = 6
  · rw [if_pos h6]; exact mkB_loop hf h0 (fun p => p.2)
  rw [if_neg h6]
  by_cases h7 : h.k = 7
  · rw [if_pos h7]; exact mkB_opt hf h0
  rw [if_neg h7]
  exact mkB_grw _ h0
theorem mkA_cons {f : Nat} {s : Bs} {rx : Nat × Bs} {t : Bs} (h : MkB (grw f [] s).1 (grw f [] s).2 rx) (k : MkA rx.2 t) : MkA s t := by
  obtain ⟨m, a1, a2, a3, a4, a5, a6, a7⟩ := h
  obtain ⟨n, b1, b2, b3, b4, b5⟩ := k
  have e1 : (grw f [] s).2.1 = s.1 + 1 := rfl
  have e2 : (grw f [] s).1 = s.1 := rfl
  have e3 : (grw f [] s).2.2 = s.2 ++ [⟨(f : Int), (s.1 : Int), []⟩] := rfl
  rw [e1] at a2 a3 a5
  rw [e2] at a5
  rw [e3] at a1
  refine ⟨[⟨(f : Int), (s.1 : Int), []⟩] ++ (m ++ n), by rw [b1, a1]; simp, by omega, fun g hg => ?_, ?_, fun g hg hq => ?_⟩
  · rcases List.mem_append.1 hg with hg | hg
    · rw [List.mem_singleton] at hg
      subst hg
      exact ⟨s.1, rfl, Nat.le_refl _⟩
    · rcases List.mem_append.1 hg with hg | hg
      · obtain ⟨t, h1, h2⟩ := a3 g hg
        exact ⟨t, h1, by omega⟩
      · obtain ⟨t, h1, h2⟩ := b3 g hg
        exact ⟨t, h1, by omega⟩
  · refine List.pairwise_append.2 ⟨List.pairwise_singleton _ _, List.pairwise_append.2 ⟨a4, b4, fun g hg h hh q1 q2 e => ?_⟩, fun g hg h hh q1 q2 => ?_⟩
    · obtain ⟨x, x1, x2, x3, x4⟩ := a5 g hg q1
      obtain ⟨y, y1, y2, y3⟩ := b5 h hh q2
      omega
    · rw [List.mem_singleton] at hg
      subst hg
      exact absurd rfl q1
  · rcases List.mem_append.1 hg with hg | hg
    · rw [List.mem_singleton] at hg
      subst hg
      exact absurd rfl hq
    · rcases List.mem_append.1 hg with hg | hg
      · obtain ⟨x, x1, x2, x3, x4⟩ := a5 g hg hq
        exact ⟨x, x1, by omega, by omega⟩
      · obtain ⟨y, y1, y2, y3⟩ := b5 g hg hq
        exact ⟨y, y1, by omega, y3⟩
theorem bF_mkB : ∀ (f : Fo), okF f → (∀ a s, a < s.1 → MkB a s ((bF f).cat a s)) ∧ (∀ a s, a < s.1 → MkA s ((bF f).alt a s).2) ∧ (∀ a s, a < s.1 → MkB a s ((bF f).fst a s))
  | .nil, _ => ⟨fun a s h => mkB_id h, fun a s _ => ⟨[], by simp [bF], Nat.le_refl _, fun g hg => (by cases hg), List.Pairwise.nil, fun g hg => (by cases hg)⟩, fun a s h => mkB_id h⟩
  | .cons h k r, ⟨o1, o2, o3⟩ => by
    obtain ⟨k1, k2, k3⟩ := bF_mkB k o2
    obtain ⟨r1, r2, r3⟩ := bF_mkB r o3
    have hX : ∀ a s, a < s.1 → MkB a s (bX h (bF k) a s) := fun a s h0 => bX_mkB k1 (fun h4 a s h5 => ⟨k2 a s h5, fun e => by
      have hl := ((bF_grows k o2).2.1 a s).2
      rw [e] at hl
      have := (ok_kinds o1).1
      simp only [List.length_nil] at hl
      omega⟩) k3 h0
    refine ⟨fun a s h0 => ?_, fun a s h0 => ?_, hX⟩
    · have h1 := hX a s h0
      have h2 : (bX h (bF k) a s).1 < (bX h (bF k) a s).2.1 := by
        obtain ⟨m, _, _, _, _, _, h6, _⟩ := h1
        exact h6
      exact mkB_seq h0 h1 (r1 _ _ h2)
    · have h1 := hX (grw a [] s).1 (grw a [] s).2 (Nat.lt_succ_self _)
      have h2 : a < (bX h (bF k) (grw a [] s).1 (grw a [] s).2).2.1 := by
        obtain ⟨m, _, h3, _⟩ := h1
        have : (grw a [] s).2.1 = s.1 + 1 := rfl
        omega
      exact mkA_cons h1 (r2 _ _ h2)
/-- But for the first state's, edges by bytes begin apart. -/
abbrev ApZ (g h : Eg) : Prop := g.q ≠ [] → h.q ≠ [] → g.f ≠ 0 → g.f ≠ h.f
theorem bL_mkB : ∀ (f : Fo), okF f → ∀ s : Bs, 0 < s.1 → ∃ m : List Eg, (bL f s).2.2 = s.2 ++ m ∧ s.1 ≤ (bL f s).2.1 ∧ (∀ g ∈ m, ∃ t : Nat, g.t = (t : Int) ∧ s.1 ≤ t) ∧ m.Pairwise ApZ ∧ ∀ g ∈ m, g.q ≠ [] → ∃ a : Nat, g.f = (a : Int) ∧ a < (bL f s).2.1 ∧ (a = 0 ∨ s.1 ≤ a)
  | .nil, _, s, _ => ⟨[], by simp [bL], Nat.le_refl _, fun g hg => (by cases hg), List.Pairwise.nil, fun g hg => (by cases hg)⟩
  | .cons h k r, ⟨o1, o2, o3⟩, s, hs => by
    obtain ⟨k1, k2, k3⟩ := bF_mkB k o2
    have hX : MkB 0 s (bE h k 0 s) := bX_mkB k1 (fun h4 a s h5 => ⟨k2 a s h5, fun e => by
      have hl := ((bF_grows k o2).2.1 a s).2
      rw [e] at hl
      have := (ok_kinds o1).1
      simp only [List.length_nil] at hl
      omega⟩) k3 hs
    obtain ⟨m, a1, a2, a3, a4, a5, a6, a7⟩ := hX
    obtain ⟨n, b1, b2, b3, b4, b5⟩ := bL_mkB r o3 (bE h k 0 s).2 (by omega)
    refine ⟨m ++ n, ?_, ?_, fun g hg => ?_, ?_, fun g hg hq => ?_⟩
    · show (bL r (bE h k 0 s).2).2.2 = _
      rw [b1, a1, List.append_assoc]
    · show s.1 ≤ (bL r (bE h k 0 s).2).2.1
      omega
    · rcases List.mem_append.1 hg with hg | hg
      · exact a3 g hg
      · obtain ⟨t, h1, h2⟩ := b3 g hg
        exact ⟨t, h1, by omega⟩
    · refine List.pairwise_append.2 ⟨a4.imp (fun h q1 q2 _ => h q1 q2), b4, fun g hg h hh q1 q2 z e => ?_⟩
      obtain ⟨x, x1, x2, x3, x4⟩ := a5 g hg q1
      obtain ⟨y, y1, y2, y3⟩ := b5 h hh q2
      omega
    · show ∃ a : Nat, g.f = (a : Int) ∧ a < (bL r (bE h k 0 s).2).2.1 ∧ (a = 0 ∨ s.1 ≤ a)
      rcases List.mem_append.1 hg with hg | hg
      · obtain ⟨x, x1, x2, x3, x4⟩ := a5 g hg hq
        exact ⟨x, x1, by omega, x4⟩
      · obtain ⟨y, y1, y2, y3⟩ := b5 g hg hq
        exact ⟨y, y1, y2, y3.imp id (by omega)⟩
theorem aut_apart {f : Fo} (ho : okF f) : (autF f).es.Pairwise ApZ ∧ ∀ g ∈ (autF f).es, ∃ t : Nat, g.t = (t : Int) ∧ 1 ≤ t := by
  obtain ⟨m, h1, h2, h3, h4, h5⟩ := bL_mkB f ho (1, []) (by decide)
  rw [List.nil_append] at h1
  have e : (autF f).es = m := h1
  rw [e]
  exact ⟨h4, h3⟩
end Go.Proofs.Ytngbfjimmdkfeaa

namespace Go.Proofs.Ytngbfjimmdkfeaa
open Go.RowKit Go.Shelf Go.Maps

theorem nodup_le {α : Type} [DecidableEq α] : ∀ (l m : List α), l.Nodup → (∀ a ∈ l, a ∈ m) → l.length ≤ m.length
  | [], _, _, _ => Nat.zero_le _
  | a :: l, m, h, hs => by
    rw [List.nodup_cons] at h
    have h1 := nodup_le l (m.erase a) h.2 (fun b hb => (List.mem_erase_of_ne (fun (e : b = a) => h.1 (by rw [← e]; exact hb))).2 (hs b (List.mem_cons_of_mem _ hb)))
    have h2 := List.length_erase_of_mem (hs a List.mem_cons_self)
    have h3 : 0 < m.length := List.length_pos_of_mem (hs a List.mem_cons_self)
    rw [List.length_cons]
    omega
/-- All parts of a list. -/
def subsL {α : Type} : List α → List (List α)
  | [] => [[]]
  | a :: l => subsL l ++ (subsL l).map (a :: ·)
theorem subs_len {α : Type} : ∀ l : List α, (subsL l).length = 2 ^ l.length
  | [] => rfl
  | a :: l => by
    rw [subsL, List.length_append, List.length_map, subs_len l, List.length_cons, Nat.pow_succ]
    omega
theorem subs_filter {α : Type} (p : α → Bool) : ∀ l : List α, l.filter p ∈ subsL l
  | [] => by simp [subsL]
  | a :: l => by
    have ih := subs_filter p l
    rw [List.filter_cons, subsL]
    split
    · exact List.mem_append_right _ (List.mem_map.2 ⟨_, ih, rfl⟩)
    · exact List.mem_append_left _ ih
/-- The edges by bytes that do not begin at the first state. -/
def byE (x : Nf) : List Eg := x.es.filter (fun e => !e.q.isEmpty && decide (e.f ≠ 0))
theorem byE_len {x : Nf} (hp : x.es.Pairwise ApZ) {r : List Int} (hr : ∀ e ∈ x.es, e.q ≠ [] → e.f ∈ r) : (byE x).length ≤ r.length := by
  have h1 : ((byE x).map Eg.f).Nodup := by
    unfold List.Nodup
    rw [List.pairwise_map]
    have h2 : (byE x).Pairwise ApZ := List.Pairwise.filter _ hp
    refine List.Pairwise.imp_of_mem (fun {a b} ha hb h => ?_) h2
    unfold byE at ha hb
    have ha := (List.mem_filter.1 ha).2
    have hb := (List.mem_filter.1 hb).2
    simp only [Bool.and_eq_true, Bool.not_eq_true', List.isEmpty_eq_false_iff, decide_eq_true_eq] at ha hb
    exact h ha.1 hb.1 ha.2
  have h3 := nodup_le _ r h1 (fun v hv => by
    obtain ⟨e, he, rfl⟩ := List.mem_map.1 hv
    unfold byE at he
    obtain ⟨h4, h5⟩ := List.mem_filter.1 he
    simp only [Bool.and_eq_true, Bool.not_eq_true', List.isEmpty_eq_false_iff] at h5
    exact hr e h4 h5.1)
  rwa [List.length_map] at h3
noncomputable def phiE (x : Nf) (F : List Eg) : List Nat := cloP x (fun b => ∃ e ∈ F, e.t = (b : Int))
theorem go_phi {x : Nf} {s : List Nat} (h0 : 0 ∉ s) (c : Nat) : goA x s c = phiE x ((byE x).filter (fun e => decide (e.f.toNat ∈ s ∧ 0 ≤ e.f) && inSp e.q c)) := by
  unfold goA phiE
  congr 1
  funext b
  refine propext ⟨?_, ?_⟩
  · rintro ⟨a, ha, e, he, h1, h2, h3⟩
    have hq : e.q ≠ [] := fun hq => by rw [hq] at h1; cases h1
    have ha0 : a ≠ 0 := fun e0 => h0 (e0 ▸ ha)
    refine ⟨e, List.mem_filter.2 ⟨List.mem_filter.2 ⟨he, ?_⟩, ?_⟩, h3⟩
    · simp only [Bool.and_eq_true, Bool.not_eq_true', List.isEmpty_eq_false_iff, decide_eq_true_eq]
      exact ⟨hq, by omega⟩
    · simp only [Bool.and_eq_true, decide_eq_true_eq]
      refine ⟨⟨?_, by omega⟩, h1⟩
      rw [h2, Int.toNat_natCast]
      exact ha
  · rintro ⟨e, he, h3⟩
    obtain ⟨h4, h5⟩ := List.mem_filter.1 he
    have h6 := (List.mem_filter.1 h4).1
    simp only [Bool.and_eq_true, decide_eq_true_eq] at h5
    exact ⟨e.f.toNat, h5.1.1, e, h6, h5.2, by omega, h3⟩
theorem go_zero {x : Nf} (hl : linkB x = true) (ht : ∀ g ∈ x.es, ∃ t : Nat, g.t = (t : Int) ∧ 1 ≤ t) (s : List Nat) (c : Nat) : 0 ∉ goA x s c := fun h => by
  unfold goA at h
  have h1 := (cloP_mem hl (fun b ⟨_, _, h⟩ => bstep_lt hl h) 0).1 h
  have h2 : 0 < 0 := Rn.closed (C := fun a => 0 < a) (fun b ⟨a, _, e, he, _, _, h3⟩ => by
    obtain ⟨t, h4, h5⟩ := ht e he
    omega) (fun a b _ ⟨e, he, _, _, h3⟩ => by
    obtain ⟨t, h4, h5⟩ := ht e he
    omega) h1
  omega
theorem addA_nodup {A : List (List Nat)} (s : List Nat) (h : A.Nodup) : (addA A s).Nodup := by
  unfold addA
  split
  · exact h
  · rcases hx : idxA A s with _ | j
    · have hn : s ∉ A := fun hm => by
        unfold idxA at hx
        have := List.findIdx?_eq_none_iff.1 hx s hm
        simp at this
      dsimp only
      unfold List.Nodup at h ⊢
      rw [List.pairwise_append]
      refine ⟨h, List.pairwise_singleton _ _, fun a ha b hb => ?_⟩
      rw [List.mem_singleton] at hb
      subst hb
      exact fun e => hn (e ▸ ha)
    · exact h
theorem addA_mem {A : List (List Nat)} {s a : List Nat} (h : a ∈ addA A s) : a ∈ A ∨ a = s := by
  unfold addA at h
  split at h
  · exact .inl h
  · rcases hx : idxA A s with _ | j
    · rw [hx] at h
      dsimp only at h
      rcases List.mem_append.1 h with h | h
      · exact .inl h
      · exact .inr (List.mem_singleton.1 h)
    · rw [hx] at h
      exact .inl h
theorem movA_sets (go : Nat → List Nat) (all : List (List Nat)) (hn : all.Nodup) : ∀ k, (movA go all k).1.Nodup ∧ ∀ a ∈ (movA go all k).1, a ∈ all ∨ ∃ c, c < k ∧ a = go c
  | 0 => ⟨hn, fun a h => .inl h⟩
  | k + 1 => by
    obtain ⟨h1, h2⟩ := movA_sets go all hn k
    rw [movA]
    dsimp only
    refine ⟨addA_nodup _ h1, fun a ha => ?_⟩
    rcases addA_mem ha with h | h
    · exact (h2 a h).imp id (fun ⟨c, h3, h4⟩ => ⟨c, by omega, h4⟩)
    · exact .inr ⟨k, by omega, h⟩
/-- All sets that there may be. -/
noncomputable def allU (x : Nf) : List (List Nat) := [cloP x (fun a => (a : Int) = x.s)] ++ ((List.range 256).map (goA x (cloP x (fun a => (a : Int) = x.s))) ++ (subsL (byE x)).map (phiE x))
theorem pb_sets {x : Nf} (hl : linkB x = true) (ht : ∀ g ∈ x.es, ∃ t : Nat, g.t = (t : Int) ∧ 1 ≤ t) : ∀ i, (PB x i).1.Nodup ∧ ∀ a ∈ (PB x i).1, a ∈ allU x ∧ (a = cloP x (fun a => (a : Int) = x.s) ∨ 0 ∉ a)
  | 0 => by
    refine ⟨?_, fun a ha => ?_⟩
    · show [cloP x (fun a => (a : Int) = x.s)].Nodup
      simp
    · have ha : a ∈ [cloP x (fun a => (a : Int) = x.s)] := ha
      rw [List.mem_singleton] at ha
      subst ha
      exact ⟨List.mem_append_left _ (List.mem_singleton.2 rfl), .inl rfl⟩
  | i + 1 => by
    obtain ⟨h1, h2⟩ := pb_sets hl ht i
    show (stpA x i (PB x i)).1.Nodup ∧ ∀ a ∈ (stpA x i (PB x i)).1, a ∈ allU x ∧ (a = cloP x (fun a => (a : Int) = x.s) ∨ 0 ∉ a)
    unfold stpA
    rcases hg : (PB x i).1[i]? with _ | s
    · exact ⟨h1, h2⟩
    · dsimp only
      obtain ⟨h3, h4⟩ := movA_sets (goA x s) (PB x i).1 h1 256
      refine ⟨h3, fun a ha => ?_⟩
      rcases h4 a ha with h5 | ⟨c, hc, rfl⟩
      · exact h2 a h5
      · refine ⟨?_, .inr (go_zero hl ht s c)⟩
        unfold allU
        rcases (h2 s (List.mem_of_getElem? hg)).2 with e | e
        · rw [e]
          exact List.mem_append_right _ (List.mem_append_left _ (List.mem_map.2 ⟨c, List.mem_range.2 hc, rfl⟩))
        · rw [go_phi e c]
          exact List.mem_append_right _ (List.mem_append_right _ (List.mem_map.2 ⟨_, subs_filter _ _, rfl⟩))
theorem pb_small {x : Nf} (hl : linkB x = true) (hp : x.es.Pairwise ApZ) (ht : ∀ g ∈ x.es, ∃ t : Nat, g.t = (t : Int) ∧ 1 ≤ t) {r : List Int} (hr : ∀ e ∈ x.es, e.q ≠ [] → e.f ∈ r) (h8 : r.length ≤ 8) (i : Nat) : (PB x i).1.length ≤ 2000 := by
  obtain ⟨h1, h2⟩ := pb_sets hl ht i
  have h3 := nodup_le _ _ h1 (fun a ha => (h2 a ha).1)
  have h4 := byE_len hp hr
  have h5 : (allU x).length = 1 + (256 + 2 ^ (byE x).length) := by
    unfold allU
    rw [List.length_append, List.length_append, List.length_map, List.length_map, List.length_range, subs_len]
    rfl
  have h6 : 2 ^ (byE x).length ≤ 2 ^ 8 := Nat.pow_le_pow_right (by decide) (by omega)
  omega
end Go.Proofs.Ytngbfjimmdkfeaa

namespace Go.Proofs.Ytngbfjimmdkfeaa
open Go.RowKit Go.Shelf Go.Maps

theorem dBuild_few (w : World) (x : Nf) (p : NfL) (hx : NfAt w x p) (hM : x.es.length ≤ 500000) (hq : spN x.es ≤ 1000000) (hb : nfB x = true) (hs : ∀ i, (PB x i).1.length ≤ 2000) :
    Calls Try.prog 15 #[.agg #[.int .i64 x.n, .int .i64 x.s, .slice p.ea x.ends.length p.ec, .slice p.ga x.es.length p.gc]] w fun e w' => (∃ (d : Df) (p2 : DfL), DfAt w' d p2 ∧ e = .returned (.tuple #[.agg #[.slice p2.ma d.ms.length p2.mc, .slice p2.aa d.ac.length p2.ac], .int .i64 0]) ∧ ∀ s, drunP d s = headI (runP x s)) ∧ Below w.heap.size w w' := by
  obtain ⟨hl, h1, h20⟩ := link_of hb
  refine (dBuild_is w x p x.n.toNat (by omega) hx hM hq).mono (fun e w' h => ?_)
  obtain ⟨L, l1, l2, l3, l4, l5, i, all, ms, ac, hdb, hbl, hr⟩ := h.2 hb
  refine ⟨?_, hbl⟩
  rcases hr with ⟨k1, k2⟩ | ⟨k1, k2, k3, k4, p2, k5, k6⟩
  · have hp := (db_pb (y := L.y) hdb hl (by omega) l2 l3 l5 (by omega)).1
    have := hs i
    rw [hp] at this
    rw [List.length_map] at this
    omega
  · subst k1
    refine ⟨⟨ms, ac⟩, p2, k5, k6, fun s => ?_⟩
    rw [drun_is (db_ok hdb) hl (by omega) l2 l3 l5 (by omega) s]
    cases runP x s <;> rfl
/-- The least from a place on that is so, or -1. -/
def wtF (p : Nat → Bool) (L k : Nat) : Int := headI ((List.range L).filter (fun i => decide (k ≤ i) && p i))
theorem wtF_end (p : Nat → Bool) (L : Nat) : wtF p L L = -1 := by
  unfold wtF
  rw [List.filter_eq_nil_iff.2 (fun i hi => by
    have := List.mem_range.1 hi
    rw [decide_eq_false (by omega : ¬ L ≤ i)]
    simp)]
  rfl
theorem wtF_yes {p : Nat → Bool} {L k : Nat} (hk : k < L) (h : p k = true) : wtF p L k = (k : Int) := by
  unfold wtF
  obtain ⟨r, hr⟩ := filter_head (P := fun i => decide (k ≤ i) && p i) hk (by rw [h, decide_eq_true (Nat.le_refl _)]; rfl) (fun j hj => by rw [decide_eq_false (by omega : ¬ k ≤ j)]; rfl)
  rw [hr]
  rfl
theorem wtF_no {p : Nat → Bool} {L k : Nat} (h : p k = false) : wtF p L k = wtF p L (k + 1) := by
  unfold wtF
  congr 1
  refine List.filter_congr (fun i _ => ?_)
  by_cases e : i = k
  · subst e
    rw [h, Bool.and_false, Bool.and_false]
  · congr 1
    exact decide_eq_decide.2 (by omega)
theorem wtF_all {R : List Nat} {L : Nat} (h : R = (List.range L).filter (fun i => decide (i ∈ R))) : wtF (fun i => decide (i ∈ R)) L 0 = headI R := by
  unfold wtF
  conv => rhs; rw [h]
  congr 1
theorem errF_step {h : Hd} {k r : Fo} (e : checkE (Fo.pre 1 (.cons h k .nil)) = 0) : errF (.cons h k r) = errF r := by
  rw [errF, if_pos e]
end Go.Proofs.Ytngbfjimmdkfeaa

namespace Go.Proofs.Ytngbfjimmdkfeaa
open Go.RowKit Go.Shelf

attribute [local go_sem] Oper.semAt_some

set_option maxRecDepth 100000 in
set_option maxHeartbeats 8000000 in
theorem dfaRegex_any (f : Fo) (a : Option Addr) (cap : Nat) (s : ByteArray) (w : World) (hI : Items w a cap f) :
    Calls Try.prog 7 #[.slice a f.len cap, .string s] w fun e w' => e = .returned (.bool true) ∧ Below w.heap.size w w' := by
  have hlm : f.len ≤ cap ∧ cap ≤ 9223372036854775807 := ⟨hI.le, hI.max⟩
  have HBu := Lib.hid (fun (V : World) (hV : Below w.heap.size w V) (h1 : f.size ≤ 1000000) (h2 : stF f ≤ 900000) => refBuild_any a f.len cap f V rfl (hI.grown hV) h1 h2)
  obtain ⟨L, HL⟩ : ∃ L, Hid (f.len = L) := ⟨_, Lib.hid rfl⟩
  rw [HL.out] at hlm HBu ⊢
  go_enter Try.func7, Try.ntmps7
  go_wp2_with (fail)
  refine (live4_any _).mono ?_
  rintro e w1 ⟨rfl, hb1⟩
  have Hb1 := Lib.hid hb1
  clear hb1
  by_cases h4 : 4 < L
  · have h4I : (4 : Int) < (L : Int) := by omega
    go_wp2_with (fail)
    exact bodyPost_ret (v := .bool true) (by simp [results, Try.results7, go_sem]; try rfl) rfl ⟨rfl, Hb1.out⟩
  have h4I : ¬ (4 : Int) < (L : Int) := by omega
  by_cases hs12 : 12 < s.size
  · have hsI : (12 : Int) < (s.size : Int) := by omega
    go_wp2_with (fail)
    exact bodyPost_ret (v := .bool true) (by simp [results, Try.results7, go_sem]; try rfl) rfl ⟨rfl, Hb1.out⟩
  have hsI : ¬ (12 : Int) < (s.size : Int) := by omega
  have HL4 : Hid (L ≤ 4) := Lib.hid (by omega)
  have HS12 : Hid (s.size ≤ 12) := Lib.hid (by omega)
  go_wp2_with (fail)
  go_loopw [7, 26] (fun _ iv wr => ∃ k : Nat, k ≤ L ∧ iv = .int .i64 (k : Int) ∧ Hid (bigF 16 f = bigF 16 (f.drop k) ∧ errF f = errF (f.drop k)) ∧ Below w.heap.size w wr) (fun _ iv _ => L - (intOf iv).toNat)
  case atStart => exact ⟨0, Nat.zero_le _, rfl, Lib.hid ⟨rfl, rfl⟩, Hb1.out⟩
  case round =>
    obtain ⟨k, hk, rfl, HI, hbr⟩ := hrel
    by_cases hlt : k < L
    · have hkI : (k : Int) < (L : Int) := by omega
      have hkI0 : (0 : Int) ≤ (k : Int) := by omega
      obtain ⟨b, off, hd, ks, sa, sc, xa, xcap, rfl, hat⟩ := (hI.grown hbr).at (k := k) (by rw [HL.out]; exact hlt)
      have HM := Lib.hid (hat.bigm 16)
      obtain ⟨x0, x1, x2, hsp, hIk, hcut⟩ := hat
      have Hcut := Lib.hid hcut
      clear hcut
      have hmx := And.intro hIk.le hIk.max
      have hmx2 := And.intro hsp.le hsp.max
      have hbl := World.block_lt_of_cell? _ _ x0
      have hnx := (Below.refl wr.heap.size wr).alloc (Nat.le_refl _) (.cells #[.int .i64 hd.k, .slice sa hd.set.length sc, .slice xa ks.len xcap] 45)
      have hA := Blk.new wr 45 #[.int .i64 hd.k, .slice sa hd.set.length sc, .slice xa ks.len xcap]
      have Hc := Lib.hid (few_B hd ks sa sc xa xcap 16 _ (hsp.grown hnx) (hIk.grown hnx) (by omega) (by omega))
      have Hck := Lib.hid (fun (V : World) (hV : Below wr.heap.size wr V) (h : ks.size ≤ 1099511627776) => refCheck_any hd ks sa sc xa xcap V (hsp.grown hV) (hIk.grown hV) h)
      have Hbn : Hid (Below w.heap.size w (wr.alloc (.cells #[.int .i64 hd.k, .slice sa hd.set.length sc, .slice xa ks.len xcap] 45))) := Lib.hid (hbr.trans (hnx.mono hbr.size))
      have Hnx := Lib.hid hnx
      have Hbr := Lib.hid hbr
      clear hnx hIk hsp hbr
      dsimp only [itemV] at Hc Hck
      have z0 := hA.cell 0
      have z1 := hA.cell 1
      have z2 := hA.cell 2
      have zl := hA.lt
      simp only [List.getElem?_cons_zero, List.getElem?_cons_succ] at z0 z1 z2
      go_wp2_with (fail)
      refine Hc.out.mono ?_
      rintro e w4 ⟨rfl, hb4⟩
      have Hb5 := Lib.hid (Hbn.out.trans (hb4.mono Hbn.out.size))
      have hA4 := hA.below hb4 hA.lt
      have Hr4 := Lib.hid (Hnx.out.trans (hb4.mono Hnx.out.size))
      clear hb4 x0 x1 x2 z0 z1 z2 zl hA
      obtain ⟨q, Hq⟩ : ∃ q, Hid (fewB 16 hd ks = q) := ⟨_, Lib.hid rfl⟩
      rw [Hq.out] at HM ⊢
      cases q
      · go_wp2_with (fail)
        exact bodyPost_ret (v := .bool true) (by simp [results, Try.results7, go_sem]; try rfl) rfl ⟨rfl, Hb5.out⟩
      · have hksz : ks.size ≤ 1000 := by
          have h1 := Hq.out
          unfold fewB at h1
          have h2 := of_decide_eq_true h1
          have h3 := ks.size_wt
          omega
        have z0 := hA4.cell 0
        have z1 := hA4.cell 1
        have z2 := hA4.cell 2
        have zl := hA4.lt
        simp only [List.getElem?_cons_zero, List.getElem?_cons_succ] at z0 z1 z2
        have HC2 := Lib.hid (Hck.out w4 Hr4.out (by omega))
        obtain ⟨Cv, hCv⟩ : ∃ c, Hid (checkE (Fo.pre 1 (.cons hd ks .nil)) = c) := ⟨_, Lib.hid rfl⟩
        rw [hCv.out] at HC2
        clear hA4
        go_wp2_with (fail)
        refine HC2.out.mono ?_
        rintro e w6 ⟨rfl, hb6⟩
        have Hb6 := Lib.hid (Hb5.out.trans (hb6.mono Hb5.out.size))
        clear hb6 z0 z1 z2 zl
        by_cases hC0 : Cv = 0
        · subst hC0
          have HN : Hid (bigF 16 f = bigF 16 (f.drop (k + 1)) ∧ errF f = errF (f.drop (k + 1))) := Lib.hid ⟨by rw [HI.out.1, HM.out]; rfl, by rw [HI.out.2, Hcut.out, errF_step hCv.out]⟩
          go_wp2_with (fail)
          exact ⟨⟨k + 1, by omega, by simp, HN, Hb6.out⟩, by simp [intOf]; omega⟩
        · have hC1 : (Cv != 0) = true := by rw [bne_iff_ne]; exact hC0
          go_wp2_with (fail)
          exact bodyPost_ret (v := .bool true) (by simp [results, Try.results7, go_sem]; try rfl) rfl ⟨rfl, Hb6.out⟩
    · obtain rfl : k = L := by omega
      have hkI : ¬ (k : Int) < (k : Int) := by omega
      have hnil : f.drop k = .nil := Fo.drop_all (by rw [HL.out]; exact Nat.le_refl _)
      have hbig : bigF 16 f = false := by rw [HI.out.1, hnil]; rfl
      have herr : errF f = 0 := by rw [HI.out.2, hnil]; rfl
      have hsz : f.size ≤ 64 := by
        have h1 := bigF_size (m := 16) f hbig
        have h2 := HL4.out
        rw [← HL.out] at h2
        have := Nat.mul_le_mul_left 16 h2
        omega
      have hst : stF f ≤ 192 := by have := st_size3 f; omega
      have Hbr := Lib.hid hbr
      have HB := Lib.hid (HBu.out wr hbr (by omega) (by omega))
      have ho := okF_err f herr
      have hk2 : 1 + stF f ≤ 2000 := by omega
      rw [build_ok herr hk2] at HB
      have Hgood := Lib.hid (aut_good ho hk2)
      have Hap := Lib.hid (aut_apart ho)
      have Hri := Lib.hid (run_is ho hk2 s.data.toList)
      have Hn3 := Lib.hid (aut_n ho).2.2
      have Herr := Lib.hid herr
      clear HI hnil hbig herr hsz hst hbr HBu ho hk2
      go_wp2_with (fail)
      refine HB.out.mono ?_
      rintro e w3 ⟨⟨p, rfl, hp⟩, hb3⟩
      have Hbw3 := Lib.hid (Hbr.out.trans (hb3.mono Hbr.out.size))
      clear hb3 HB
      obtain ⟨x, hx⟩ : ∃ x, Hid (autF f = x) := ⟨_, Lib.hid rfl⟩
      rw [hx.out] at hp Hgood Hap Hri Hn3 ⊢
      have hE1 := hp.ends.le
      have hE2 := hp.ends.max
      have hG1 := hp.es.le
      have hG2 := hp.es.max
      have HS := Lib.hid (fun (V : World) (h : NfAt V x p) => small4_any x p V h)
      have HH := Lib.hid (fun (V : World) (h : NfAt V x p) (h2 : x.es.length ≤ 500000) => hardR_any x p V h h2)
      have HBd := Lib.hid (fun (V : World) (h : NfAt V x p) (h2 : x.es.length ≤ 500000) (h3 : spN x.es ≤ 1000000) (h4 : ∀ i, (PB x i).1.length ≤ 2000) => dBuild_few V x p h h2 h3 Hgood.out h4)
      have Hx := Lib.hid hp
      clear hp
      obtain ⟨ea, ec, ga, gc⟩ := p
      dsimp only [nfV] at *
      obtain ⟨E, hE⟩ : ∃ E, Hid (x.ends.length = E) := ⟨_, Lib.hid rfl⟩
      obtain ⟨G, hG⟩ : ∃ G, Hid (x.es.length = G) := ⟨_, Lib.hid rfl⟩
      obtain ⟨xn, hn⟩ : ∃ n, Hid (x.n = n) := ⟨_, Lib.hid rfl⟩
      obtain ⟨xs, hs⟩ : ∃ n, Hid (x.s = n) := ⟨_, Lib.hid rfl⟩
      obtain ⟨q, hq⟩ : ∃ n, Hid (smallD x = n) := ⟨_, Lib.hid rfl⟩
      rw [hE.out, hG.out, hn.out, hs.out] at HS HH HBd
      rw [hq.out] at HS
      rw [hE.out] at hE1
      rw [hG.out] at hG1
      rw [hE.out, hG.out, hn.out, hs.out]
      have hup := up_by (w := w3) (.cells #[.int .i64 xn, .int .i64 xs, .slice ea E ec, .slice ga G gc] 32)
      have hA5 := Blk.new w3 32 #[.int .i64 xn, .int .i64 xs, .slice ea E ec, .slice ga G gc]
      have Hx5 := Lib.hid (Hx.out.grown hup)
      have Hbw5 := Lib.hid (Hbw3.out.trans (hup.mono Hbw3.out.size))
      clear hup
      have x0 := hA5.cell 0
      have x1 := hA5.cell 1
      have x2 := hA5.cell 2
      have x3 := hA5.cell 3
      have xl := hA5.lt
      simp only [List.getElem?_cons_zero, List.getElem?_cons_succ] at x0 x1 x2 x3
      go_wp2_with (fail)
      refine (HS.out _ Hx5.out).mono ?_
      rintro e w6 ⟨rfl, hb6⟩
      have hA6 := hA5.below hb6 hA5.lt
      have Hx6 := Lib.hid (Hx5.out.grown hb6)
      have Hbw6 := Lib.hid (Hbw5.out.trans (hb6.mono Hbw5.out.size))
      clear hA5 hb6 x0 x1 x2 x3 xl HS
      have x0 := hA6.cell 0
      have x1 := hA6.cell 1
      have x2 := hA6.cell 2
      have x3 := hA6.cell 3
      have xl := hA6.lt
      simp only [List.getElem?_cons_zero, List.getElem?_cons_succ] at x0 x1 x2 x3
      cases q
      case false =>
        go_wp2_with (fail)
        exact bodyPost_ret (v := .bool true) (by simp [results, Try.results7, go_sem]; try rfl) rfl ⟨rfl, Hbw6.out⟩
      case true =>
      have Hsm := Lib.hid (small_is hq.out)
      go_wp2_with (fail)
      refine (HH.out _ Hx6.out (by have := Hsm.out.1; rw [hG.out] at this; omega)).mono ?_
      rintro e w7 ⟨⟨r, hrm, rfl⟩, hb7⟩
      have hA7 := hA6.below hb7 hA6.lt
      have Hx7 := Lib.hid (Hx6.out.grown hb7)
      have Hbw7 := Lib.hid (Hbw6.out.trans (hb7.mono Hbw6.out.size))
      clear hA6 hb7 x0 x1 x2 x3 xl HH
      have x0 := hA7.cell 0
      have x1 := hA7.cell 1
      have x2 := hA7.cell 2
      have x3 := hA7.cell 3
      have xl := hA7.lt
      simp only [List.getElem?_cons_zero, List.getElem?_cons_succ] at x0 x1 x2 x3
      by_cases h8 : 8 < r.length
      · have h8I : (8 : Int) < (r.length : Int) := by omega
        have hdt : decide ((8 : Int) < (r.length : Int)) = true := decide_eq_true h8I
        rw [hdt]
        go_wp2_with (fail)
        exact bodyPost_ret (v := .bool true) (by simp [results, Try.results7, go_sem]; try rfl) rfl ⟨rfl, Hbw7.out⟩
      have hdf : decide ((8 : Int) < (r.length : Int)) = false := decide_eq_false (by omega)
      rw [hdf]
      have Hps : Hid (∀ i, (PB x i).1.length ≤ 2000) := Lib.hid (fun i => pb_small (link_of Hgood.out).1 Hap.out.1 Hap.out.2 hrm (by omega) i)
      clear hrm h8 hdf
      go_wp2_with (fail)
      refine (HBd.out _ Hx7.out (by have := Hsm.out.1; rw [hG.out] at this; omega) Hsm.out.2.2 Hps.out).mono ?_
      rintro e w8 ⟨⟨d, p2, hd2, rfl, hrun⟩, hb8⟩
      have Hbw8 := Lib.hid (Hbw7.out.trans (hb8.mono Hbw7.out.size))
      clear hA7 hb8 x0 x1 x2 x3 xl HBd
      obtain ⟨rs, ma, mc, aa, ac⟩ := p2
      have HD := Lib.hid hd2
      have hd1 : d.ms.length ≤ mc := by have := hd2.ms.le; rw [hd2.len] at this; exact this
      have hd3 : mc ≤ 9223372036854775807 := hd2.ms.max
      have hd4 : d.ac.length ≤ ac := hd2.acc.le
      have hd5 : ac ≤ 9223372036854775807 := hd2.acc.max
      dsimp only at *
      have HRu := Lib.hid (hrun s.data.toList)
      have HDr := Lib.hid (fun (V : World) (h : DfAt V d ⟨rs, ma, mc, aa, ac⟩) => drun_any d ⟨rs, ma, mc, aa, ac⟩ s V h (by have := HS12.out; omega))
      obtain ⟨M, HM⟩ : ∃ M, Hid (d.ms.length = M) := ⟨_, Lib.hid rfl⟩
      obtain ⟨N, HN⟩ : ∃ N, Hid (d.ac.length = N) := ⟨_, Lib.hid rfl⟩
      obtain ⟨R, hR⟩ : ∃ R, Hid (runP x s.data.toList = R) := ⟨_, Lib.hid rfl⟩
      have HRR : Hid (R = (List.range k).filter (fun i => decide (i ∈ R))) := Lib.hid (by
        have h1 := hR.out
        have h2 : runP x s.data.toList = (List.range k).filter (fun i => decide (i ∈ runP x s.data.toList)) := by
          conv => lhs; unfold runP
          rw [Hn3.out, HL.out]
          refine List.filter_congr (fun i hi => ?_)
          congr 1
          unfold runP
          rw [Hn3.out, HL.out]
          simp only [List.mem_filter, decide_eq_true_eq, eq_iff_iff]
          exact ⟨fun h => ⟨hi, h⟩, fun h => h.2⟩
        rw [h1] at h2
        exact h2)
      have HWa := Lib.hid (wtF_all HRR.out)
      rw [HM.out, HN.out, HRu.out, hR.out, ← HWa.out] at HDr
      rw [hR.out] at Hri
      rw [HM.out] at hd1 ⊢
      rw [HN.out] at hd4 ⊢
      have hup := up_by (w := w8) (.cells #[.slice ma M mc, .slice aa N ac] 25)
      have hB9 := Blk.new w8 25 #[.slice ma M mc, .slice aa N ac]
      have HD9 := Lib.hid (HD.out.grown hup)
      have Hbw9 := Lib.hid (Hbw8.out.trans (hup.mono Hbw8.out.size))
      obtain ⟨W9, hW9⟩ : ∃ W, Hid (w8.alloc (.cells #[.slice ma M mc, .slice aa N ac] 25) = W) := ⟨_, Lib.hid rfl⟩
      have hW9' := hW9.out
      rw [hW9.out] at hB9 HD9 Hbw9
      have HW0 := Lib.hid (wtF_end (fun i => decide (i ∈ R)) k)
      clear hup hd2 hrun
      go_wp2_with (fail)
      go_loopw [12, 13] (fun tv iv wr => ∃ (j : Nat) (z : Int), j ≤ k ∧ z = (j : Int) - 1 ∧ iv = .int .i64 z ∧ tv = .int .i64 (wtF (fun i => decide (i ∈ R)) k j) ∧ Below W9.heap.size W9 wr) (fun _ iv _ => (intOf iv + 1).toNat)
      case atStart => exact ⟨k, (k : Int) - 1, Nat.le_refl _, rfl, rfl, by rw [HW0.out], Below.refl _ _⟩
      case round =>
        obtain ⟨j, z, hj, hz, rfl, rfl, hbr⟩ := hrel
        have Hb := Lib.hid (Hbw9.out.trans (hbr.mono Hbw9.out.size))
        cases j with
        | zero =>
          have hz1 : z = -1 := by omega
          clear hz
          subst hz1
          have HF := Lib.hid (HDr.out wr (HD9.out.grown hbr))
          have hBr := hB9.below hbr hB9.lt
          obtain ⟨Wv, hWv⟩ : ∃ v, Hid (wtF (fun i => decide (i ∈ R)) k 0 = v) := ⟨_, Lib.hid rfl⟩
          rw [hWv.out] at HF ⊢
          have y0 := hBr.cell 0
          have y1 := hBr.cell 1
          have yl := hBr.lt
          simp only [List.getElem?_cons_zero, List.getElem?_cons_succ] at y0 y1
          clear hbr hBr hW9'
          go_wp2_with (fail)
          refine HF.out.mono ?_
          rintro e wf ⟨rfl, hbf⟩
          have HBf := Lib.hid (Hb.out.trans (hbf.mono Hb.out.size))
          clear hbf
          go_wp2_with (fail)
          exact bodyPost_ret (v := .bool true) (by simp [results, Try.results7, go_sem]; try rfl) rfl ⟨rfl, HBf.out⟩
        | succ j =>
          have hz1 : z = (j : Int) := by omega
          clear hz
          subst hz1
          have hjk : j < k := by omega
          have hjI : (j : Int) < (k : Int) := by omega
          have hjI0 : (0 : Int) ≤ (j : Int) := by omega
          obtain ⟨b, off, hd, ks, ya, yc, xa, xcap, rfl, hat⟩ := (hI.grown Hb.out).at (k := j) (by rw [HL.out]; exact hjk)
          obtain ⟨y0, y1, y2, hsp, hIk, hcut⟩ := hat
          have hblt : b < wr.heap.size := World.block_lt_of_cell? wr _ y0
          have hmx : ks.len ≤ xcap ∧ xcap ≤ 9223372036854775807 := ⟨hIk.le, hIk.max⟩
          have hmx2 : hd.set.length ≤ yc ∧ yc ≤ 9223372036854775807 := ⟨hsp.le, hsp.max⟩
          have hck := errF_drop f j Herr.out hcut
          have hls := lsF_drop f j hcut
          obtain ⟨B, hB⟩ : ∃ B, Hid (decide (j ∈ R) = B) := ⟨_, Lib.hid rfl⟩
          have hBm : mE ⟨hd, ks⟩ s.data.toList = B := by
            rw [← hB.out]
            have hc1 : ckX ⟨hd, ks⟩ ≠ 1 := by show checkE (Fo.pre 1 (.cons hd ks .nil)) ≠ 1; rw [hck]; decide
            have h1 := mE_is hc1 s.data.toList
            have h2 := Hri.out j
            rw [Bool.eq_iff_iff, h1, decide_eq_true_eq, h2]
            constructor
            · exact fun h => ⟨_, hls, h⟩
            · rintro ⟨M, h3, h4⟩
              rw [hls] at h3
              cases h3
              exact h4
          have HMt := Lib.hid (refMatch_any ⟨⟨hd, ks⟩, ya, yc, xa, xcap⟩ s wr (by have := HS12.out; omega) (by show checkE (Fo.pre 1 (.cons hd ks .nil)) ≠ 1; rw [hck]; decide) hsp hIk)
          rw [hBm] at HMt
          dsimp only at HMt
          have Hbr := Lib.hid hbr
          clear hsp hIk hcut hck hls hBm hbr hW9'
          go_wp2_with (fail)
          refine HMt.out.mono ?_
          rintro e w10 ⟨rfl, hb10⟩
          have Hb10 := Lib.hid (Hbr.out.trans (hb10.mono Hbr.out.size))
          clear hb10
          cases B
          case false =>
            have HN1 := Lib.hid (wtF_no (p := fun i => decide (i ∈ R)) (L := k) hB.out)
            go_wp2_with (fail)
            exact ⟨⟨j, (j : Int) - 1, by omega, rfl, by simp, by rw [HN1.out], Hb10.out⟩, by simp [intOf]⟩
          case true =>
            have HN1 := Lib.hid (wtF_yes (p := fun i => decide (i ∈ R)) hjk hB.out)
            go_wp2_with (fail)
            exact ⟨⟨j, (j : Int) - 1, by omega, rfl, by simp, by rw [HN1.out], Hb10.out⟩, by simp [intOf]⟩
end Go.Proofs.Ytngbfjimmdkfeaa

namespace Go.Proofs.Ytngbfjimmdkfeaa
open Go.ChangeShapes Go.WideShapes Go.ChangeAt Go.RowKit

set_option maxRecDepth 100000 in
theorem dfaRegex_lifted (os : Os) (started : os.Started) (H : Type) (enc : TypeId × Value → H) :
    ReturnsInHanded {} Try.checked os 7 .any (Rows.dfaRegexSpec.pre6 enc Try.prog Try.f7 Rows.dfaRegexRow.domain false) (Rows.dfaRegexSpec.post enc Try.prog Try.f7 false true false false) := by
  refine returnsInHanded_of_change (C := Try.checked) Try.own started (by kernel_rfl) Try.func7
    (ChangeSpec.witness6 (enc := enc) (C := Try.checked) false ⟨#[], #[.slice none 0 0, .string ⟨#[]⟩], []⟩ 8 (by kernel_rfl) (by kernel_rfl) (by kernel_rfl) (by kernel_rfl)) ?_
  intro W base args ds gs before hval0 hW _ _
  have hval : ∀ (j : Nat) t v, Try.f7.params[j]? = some t → args[j]? = some v → Value.okWide Try.prog W .any base t v := hval0
  have hW' := hW
  obtain ⟨p, q, hA0, hV, rfl, hfz, hnd⟩ := hW
  have hA : DataW.TrodAll enc Try.prog W 0 (fun _ => true) true Try.f7.params.toList args.toList ds p := hA0
  rw [Try.params7] at hA hval
  obtain ⟨v0, v1, d0, d1, p0, p1, rfl, rfl, rfl, h0, h1⟩ := trodAll_two hA
  obtain ⟨a, cap, f, rfl, hI⟩ := open_res (hval 0 42 v0 rfl rfl) h0
  obtain ⟨s, rfl, _⟩ := open_str3 (hval 1 9 v1 rfl rfl) h1
  refine (dfaRegex_any f a cap s W hI).mono fun e W' ⟨he, hw⟩ => ?_
  subst he
  exact ⟨_, rfl, law_post hW' rfl rfl (by kernel_rfl) (by rw [Try.params7]; intro t ht; simp at ht; rcases ht with rfl | rfl; exact ⟨by kernel_rfl, of_decide_eq_true (by kernel_rfl)⟩; exact ⟨by kernel_rfl, of_decide_eq_true (by kernel_rfl)⟩) hw⟩

theorem dfaRegex_holds : Rows.DfaRegexSaid :=
  OpenClaim.holds_of_wide 7 Try.f7 rfl rfl rfl rfl rfl rfl rfl ⟨rfl, rfl, rfl, rfl, rfl⟩ rfl rfl rfl rfl rfl (by kernel_rfl) Try.func7 (by kernel_rfl)
    (of_decide_eq_true (by kernel_rfl)) (by unfold Func.isWrapper; first | (rw [if_pos (by decide +kernel)]; kernel_rfl) | (rw [if_neg (by decide +kernel)]; exact ⟨rfl, rfl⟩))
    (fun os started H enc _ => dfaRegex_lifted os started H enc)
end Go.Proofs.Ytngbfjimmdkfeaa

