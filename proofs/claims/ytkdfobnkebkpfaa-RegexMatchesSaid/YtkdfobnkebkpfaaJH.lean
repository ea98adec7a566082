/- Texts of layer 2 joined: TPart. -/
import Derived.Test.YtkdfobnkebkpfaaJG
import Derived.Deep.RegionLaw
import Derived.Outline
set_option linter.unusedVariables false
set_option linter.unusedSimpArgs false
/- regex.appendPart: a part of an expression. -/
namespace Go.Proofs.Ytkdfobnkebkpfaa
open Go.RowKit Go.Shelf

attribute [local go_sem] Oper.semAt_some

/-- What is known at each step: what came in, the own row, the box. -/
structure St (W0 : World) (bx : Nat) (cs : List Value) (w : World) (a : Option Addr) (n cap : Nat) (ys : List UInt8) : Prop where
  below : Below W0.heap.size W0 w
  own : OwnB w W0.heap.size a n cap ys
  box : Blk w bx 25 cs
theorem St.alloc {W0 w : World} {bx n cap : Nat} {cs : List Value} {a : Option Addr} {ys : List UInt8} (h : St W0 bx cs w a n cap ys) (o : Obj) : St W0 bx cs (w.alloc o) a n cap ys :=
  ⟨h.below.alloc h.below.size _, World.ownsRow.alloc h.own _, h.box.alloc _⟩
theorem St.drew {W0 w : World} {bx n cap : Nat} {cs : List Value} {a : Option Addr} {ys : List UInt8} (h : St W0 bx cs w a n cap ys) : St W0 bx cs w.drew a n cap ys :=
  ⟨⟨h.below.os, h.below.tape, h.below.output, h.below.size, h.below.block⟩, World.ownsRow.drew h.own, h.box⟩
theorem St.grw {W0 w w' : World} {bx n cap n' cap' : Nat} {cs : List Value} {a a' : Option Addr} {ys ys' : List UInt8} (h : St W0 bx cs w a n cap ys) (ho : OwnB w' W0.heap.size a' n' cap' ys') (hg : Grw W0.heap.size w a w' a') : St W0 bx cs w' a' n' cap' ys' :=
  ⟨h.below.trans (hg.only.below (Nat.le_refl _) h.below.size), ho, hg.blk h.box (by decide)⟩
/-- A byte that was written out, beside the own row. -/
structure Lit (w : World) (g : Nat) (c : UInt8) (a : Option Addr) : Prop where
  blk : Blk w g 5 [bv c]
  ne : ∀ p, a = some p → p.block ≠ g
theorem OwnB.lt {w : World} {base n cap : Nat} {a : Option Addr} {ys : List UInt8} (h : OwnB w base a n cap ys) : ∀ p, a = some p → p.block < w.heap.size := by
  rintro p rfl
  obtain ⟨_, cs, fr, e⟩ := h.row p.block rfl
  exact (Array.getElem?_eq_some_iff.1 e).1
theorem Lit.new {w : World} {base n cap : Nat} {a : Option Addr} {ys : List UInt8} (h : OwnB w base a n cap ys) (c : UInt8) (v : Value) (hv : v = bv c) : Lit (w.alloc (.cells #[v] 5)) w.heap.size c a := by
  subst hv
  exact ⟨Blk.new w 5 #[bv c], fun p e => by have := h.lt p e; omega⟩
theorem Lit.new' {w : World} {base n cap g : Nat} {a : Option Addr} {ys : List UInt8} (h : OwnB w base a n cap ys) (c : UInt8) (v : Value) (hv : v = bv c) (hg : g = w.heap.size) : Lit (w.alloc (.cells #[v] 5)) g c a := by
  subst hg; exact Lit.new h c v hv
theorem Lit.alloc {w : World} {g : Nat} {c : UInt8} {a : Option Addr} (h : Lit w g c a) (o : Obj) : Lit (w.alloc o) g c a := ⟨h.blk.alloc o, h.ne⟩
theorem Lit.drew {w : World} {g : Nat} {c : UInt8} {a : Option Addr} (h : Lit w g c a) : Lit w.drew g c a := ⟨h.blk, h.ne⟩
theorem Lit.grw {base : Nat} {w w' : World} {g : Nat} {c : UInt8} {a a' : Option Addr} (h : Lit w g c a) (hg : Grw base w a w' a') : Lit w' g c a' :=
  ⟨hg.keep g _ h.blk h.ne, fun p e => by
    rcases hg.new with rfl | ⟨k, e1, hk⟩
    · exact h.ne p e
    · rw [e1] at e; cases e; have := h.blk.lt; show k ≠ g; omega⟩
theorem Lit.bytes {w : World} {g : Nat} {c : UInt8} {a : Option Addr} (h : Lit w g c a) : Bytes w (some ⟨g, 0, none⟩) 1 [c] :=
  ⟨by simp, by omega, fun i _ => ⟨g, 0, rfl⟩, fun b off e i hi => by
    cases e
    have : i = 0 := by simpa using hi
    subst this
    exact h.blk.cell 0, fun e => by cases e⟩

/-- One byte that was written out is put onto the own row, as a step of a region that draws its order. -/
theorem step_push {ops : Array Oper} {o : Oper} {act : Act} {w : World} {K : Act → World → Prop} {Q : Exit → Act → World → Prop} {E : Prop} (hgd : o.guard = none) (s x : Operand)
    (hop : o.op = Op.call { callee := Callee.builtin Builtin.append, args := #[s, x], argTypes := #[65, 65] })
    {W0 : World} {bx n cap g : Nat} {cs : List Value} {a : Option Addr} {ys : List UInt8} {c : UInt8} (hs : act.eval s = .slice a n cap) (hx : act.eval x = .slice (some ⟨g, 0, none⟩) 1 1)
    (hS : St W0 bx cs w a n cap ys) (hL : Lit w g c a) (hbound : n + 1 ≤ 140737488355328)
    (h : ∀ a' cap' w', St W0 bx cs w' a' (n + 1) cap' (ys ++ [c]) → Grw W0.heap.size w a w' a' → K (act.put o.dst (.slice a' (n + 1) cap')) w') :
    if Region.wanted o (yielded ops act.tmps) = true then Oper.wp Try.prog o act w K Q else E := by
  obtain ⟨a', cap', w', hrun, ho, hg, hn⟩ := run_append_bytes w o.type hS.own (some ⟨g, 0, none⟩) 1 1 [c] hL.bytes rfl hbound hS.below.size
  have hG := Grw.of hS.own hg hn
  exact step_append_run hgd s x _ _ hop _ _ _ _ hs hx hrun (h _ _ _ (hS.grw ho hG) hG)

/-- appendText's contract at an expression that lies below W0's end. -/
def TextC (W0 : World) (hh : Hd) (kids : Fo) (sa : Option Addr) (sc : Nat) (ka : Option Addr) (kcap : Nat) : Prop :=
  ∀ (a : Option Addr) (n cap : Nat) (ys : List UInt8) (w : World), Below W0.heap.size W0 w → OwnB w W0.heap.size a n cap ys → n + (9 * hh.set.length + 12 + wtT kids) ≤ 140737488355328 →
    Calls Try.prog 44 #[.slice a n cap, itemV hh sa sc ka kids.len kcap] w fun e w' => ∃ a' c', e = .returned (.slice a' (n + (textOf hh kids).length) c') ∧ OwnB w' W0.heap.size a' (n + (textOf hh kids).length) c' (ys ++ textOf hh kids) ∧ Grw W0.heap.size w a w' a'

set_option maxRecDepth 100000 in
set_option maxHeartbeats 1000000 in
theorem appendPart_bare (W0 : World) (k : Int) (hh : Hd) (kids : Fo) (sa : Option Addr) (sc : Nat) (ka : Option Addr) (kcap : Nat) (hT : TextC W0 hh kids sa sc ka kcap) (hk : ¬ (hh.k = 4 ∨ (hh.k = 3 ∧ k ≠ 4)))
    (a : Option Addr) (n cap : Nat) (ys : List UInt8) (w : World) (hB : Below W0.heap.size W0 w) (hown : OwnB w W0.heap.size a n cap ys) (hn : n + (9 * hh.set.length + 12 + wtT kids) ≤ 140737488355328) :
    Calls Try.prog 62 #[.slice a n cap, itemV hh sa sc ka kids.len kcap, .int .i64 k] w fun e w' => ∃ a' c', e = .returned (.slice a' (n + (textOf hh kids).length) c') ∧ OwnB w' W0.heap.size a' (n + (textOf hh kids).length) c' (ys ++ textOf hh kids) ∧ Grw W0.heap.size w a w' a' := by
  obtain ⟨kk, set⟩ := hh
  dsimp only [itemV] at hT hk hn ⊢
  obtain ⟨L, HL⟩ : ∃ L, Hid (set.length = L) := ⟨_, Lib.hid rfl⟩
  have hC := hT a n cap ys (w.alloc (.cells #[.int .i64 kk, .slice sa set.length sc, .slice ka kids.len kcap] 25)) (hB.alloc hB.size _) (World.ownsRow.alloc hown _) hn
  have hG0 := Grw.alloc W0.heap.size w a (.cells #[.int .i64 kk, .slice sa set.length sc, .slice ka kids.len kcap] 25)
  have n4 : (kk == 4) = false := by simp; omega
  have h3 : (kk == 3) = false ∨ ((kk == 3) = true ∧ (k != 4) = false) := by
    by_cases h : kk = 3
    · exact .inr ⟨by simp [h], by simp; omega⟩
    · exact .inl (by simp [h])
  clear hk
  rcases h3 with h3 | ⟨h3, h4⟩
  all_goals
    go_enter Try.func62, Try.ntmps62
    go_wp2_with (go_at_call 44; (with_reducible refine hC.mono ?_); rintro e w8 ⟨a8, c8, rfl, ho8, hg8⟩)
    go_ret
    exact ⟨a8, c8, rfl, ho8, hG0.trans hg8⟩

set_option maxRecDepth 100000 in
set_option maxHeartbeats 4000000 in
theorem appendPart_wrap (W0 : World) (k : Int) (hh : Hd) (kids : Fo) (sa : Option Addr) (sc : Nat) (ka : Option Addr) (kcap : Nat) (hT : TextC W0 hh kids sa sc ka kcap) (hk : hh.k = 4 ∨ (hh.k = 3 ∧ k ≠ 4))
    (a : Option Addr) (n cap : Nat) (ys : List UInt8) (w : World) (hB : Below W0.heap.size W0 w) (hown : OwnB w W0.heap.size a n cap ys) (hn : n + 2 + (9 * hh.set.length + 12 + wtT kids) ≤ 140737488355328) :
    Calls Try.prog 62 #[.slice a n cap, itemV hh sa sc ka kids.len kcap, .int .i64 k] w fun e w' => ∃ a' c', e = .returned (.slice a' (n + 1 + (textOf hh kids).length + 1) c') ∧ OwnB w' W0.heap.size a' (n + 1 + (textOf hh kids).length + 1) c' (ys ++ [40] ++ textOf hh kids ++ [41]) ∧ Grw W0.heap.size w a w' a' := by
  have hTl := textOf_length hh kids
  obtain ⟨kk, set⟩ := hh
  dsimp only [itemV] at hT hk hn hTl ⊢
  obtain ⟨T, HT⟩ : ∃ T, Hid (textOf ⟨kk, set⟩ kids = T) := ⟨_, Lib.hid rfl⟩
  unfold TextC at hT
  dsimp only [itemV] at hT
  rw [HT.out] at hTl ⊢
  simp only [HT.out] at hT
  have hC := Lib.hid hT
  have hS0 : St W0 w.heap.size [.int .i64 kk, .slice sa set.length sc, .slice ka kids.len kcap] (w.alloc (.cells #[.int .i64 kk, .slice sa set.length sc, .slice ka kids.len kcap] 25)) a n cap ys :=
    ⟨hB.alloc hB.size _, World.ownsRow.alloc hown _, Blk.new w 25 #[.int .i64 kk, .slice sa set.length sc, .slice ka kids.len kcap]⟩
  have hG0 := Grw.alloc W0.heap.size w a (.cells #[.int .i64 kk, .slice sa set.length sc, .slice ka kids.len kcap] 25)
  have h4 : (kk == 4) = true ∨ ((kk == 4) = false ∧ (kk == 3) = true ∧ (k != 4) = true) := by
    by_cases h : kk = 4
    · exact .inl (by simp [h])
    · exact .inr ⟨by simp [h], by simp; omega, by simp; omega⟩
  clear hk hT hB hown
  rcases h4 with h4 | ⟨h4, h3, h5⟩
  all_goals
    go_enter Try.func62, Try.ntmps62
    go_wp2_with (fail)
    generalize w.alloc (.cells #[.int .i64 kk, .slice sa set.length sc, .slice ka kids.len kcap] 25) = W at hS0 hG0 ⊢
    generalize w.heap.size = bx at hS0 ⊢
    have hlt := hS0.box.lt
    have x0 := hS0.box.cell 0
    have x1 := hS0.box.cell 1
    have x2 := hS0.box.cell 2
    simp only [List.getElem?_cons_zero, List.getElem?_cons_succ] at x0 x1 x2
    go_region_law (first
      | (refine step_push rfl (.tmp 19) (.tmp 20) rfl rfl rfl (W0 := W0) (bx := bx) (by first | exact (hS0.alloc _).drew | exact ((hS0.alloc _).alloc _).drew) (c := 40) (by first | exact (Lit.new' hS0.own 40 _ rfl (by simp)).drew | exact ((Lit.new' hS0.own 40 _ rfl (by simp)).alloc _).drew | exact (Lit.new' (hS0.alloc _).own 40 _ rfl (by simp)).drew) (by omega) ?_;
         intro a2 c2 w2 hS2 hg2;
         have hG2 := (hG0.trans (by first | exact (Grw.alloc _ _ _ _).trans (Grw.drew _ _ _) | exact ((Grw.alloc _ _ _ _).trans (Grw.alloc _ _ _ _)).trans (Grw.drew _ _ _))).trans hg2;
         have hlt2 := hS2.box.lt; have y0 := hS2.box.cell 0; have y1 := hS2.box.cell 1; have y2 := hS2.box.cell 2;
         simp only [List.getElem?_cons_zero, List.getElem?_cons_succ] at y0 y1 y2;
         (first
           | (have hL2 : Lit w2 (W.heap.size + 1) 41 a2 := by (refine Lit.grw ?_ hg2; exact (Lit.new' (hS0.alloc _).own 41 _ rfl (by simp)).drew))
           | (have hL2 : Lit w2 W.heap.size 41 a2 := by (refine Lit.grw ?_ hg2; exact ((Lit.new' hS0.own 41 _ rfl rfl).alloc _).drew))
           | skip))
      | (go_simp; go_at_call 44; (with_reducible refine (hC.out _ _ _ _ _ hS2.below hS2.own (by omega)).mono ?_); rintro e w4 ⟨a4, c4, rfl, ho4, hg4⟩;
         have hS4 := hS2.grw ho4 hg4; have hG4 := hG2.trans hg4; have hlt4 := hS4.box.lt;
         try (have hL4 := hL2.grw hg4))
      | (go_simp; go_at_call 44; (with_reducible refine (hC.out _ _ _ _ _ (hS2.alloc _).below (hS2.alloc _).own (by omega)).mono ?_); rintro e w4 ⟨a4, c4, rfl, ho4, hg4⟩;
         have hL4 := (Lit.new' hS2.own 41 _ rfl rfl).grw hg4; have hS4 := (hS2.alloc _).grw ho4 hg4; have hG4 := (hG2.trans (Grw.alloc _ _ _ _)).trans hg4; have hlt4 := hS4.box.lt)
      | (refine step_push rfl (.tmp 23) (.tmp 24) rfl rfl rfl (W0 := W0) (bx := bx) hS4 (c := 41) hL4 (by omega) ?_;
         intro a6 c6 w6 hS6 hg6; have hG6 := hG4.trans hg6)
      | (refine step_push rfl (.tmp 23) (.tmp 24) rfl rfl rfl (W0 := W0) (bx := bx) (hS4.alloc _) (c := 41) (Lit.new' hS4.own 41 _ rfl rfl) (by omega) ?_;
         intro a6 c6 w6 hS6 hg6; have hG6 := (hG4.trans (Grw.alloc _ _ _ _)).trans hg6))
    all_goals
      go_wp2_with (fail)
      go_ret
      exact ⟨a6, c6, rfl, hS6.own, hG6⟩
end Go.Proofs.Ytkdfobnkebkpfaa
