/- Texts of layer 2 joined: Ur Us Ut Uu. -/
import Derived.Test.YtkdfobnkebkpfaaJU4
import Derived.Test.YtkdfobnkebkpfaaJU5
import Derived.Test.YtkdfobnkebkpfaaJQ
import Derived.StillTailTactics
set_option linter.unusedVariables false
set_option linter.unusedSimpArgs false
/- The reference's reader: atom, a bracket. -/
namespace Go.Proofs.Ytkdfobnkebkpfaa
open Go.RowKit Go.Shelf
attribute [local go_sem] Oper.semAt_some

theorem rclass_any (w : World) (rb : Nat) (s : ByteArray) (a : Nat) (r : List UInt8) (hA : RAt w rb s a false) (hS : Suf s (a + 1) r) (hs : s.size ≤ 4096) :
    Calls Try.prog 90 #[.pointer (some ⟨rb, 0, none⟩)] w (RA (exV w.heap.size) exJ w rb s ((classP r).bind fun x r1 => .ok (setX (spP (setM x) 256)) r1)) := by
  cases hh : headIs 94 r with
  | false => exact class_plain_ w rb s a r hA hS hs hh
  | true => exact class_not_ w rb s a r hA hS hs hh
/-- alternatives' contract for what is shorter. -/
def RAltsC (N : Nat) : Prop := ∀ (w : World) (rb : Nat) (s : ByteArray) (a : Nat) (r : List UInt8) (F : Nat), r.length < N → 8 * r.length + 8 ≤ F → RAt w rb s a false → Suf s a r → s.size ≤ 4096 →
  Calls Try.prog 42 #[.pointer (some ⟨rb, 0, none⟩)] w (RA (exV w.heap.size) exJ w rb s (altsP F r))
theorem Cs.alloc {w V : World} {rb : Nat} {s : ByteArray} {A : Option Addr} {C : Nat} {l : List Sp} {a : Nat} {bad : Bool} (h : Cs w rb s A C l a bad V) (o : Obj) : Cs w rb s A C l a bad (V.alloc o) := h.kept (World.grownBy_alloc V o none)
abbrev Ea.cells (e : Ea) : Array Value := #[.int .i64 e.x.h.k, .slice e.sa e.x.h.set.length e.sc, .slice e.a e.x.k.len e.c]

set_option maxRecDepth 100000 in
set_option maxHeartbeats 4000000 in
theorem ratom_paren (N : Nat) (ih : RAltsC N) (w : World) (rb : Nat) (s : ByteArray) (a : Nat) (r : List UInt8) (F : Nat) (hF : 8 * r.length + 1 ≤ F) (hA : RAt w rb s a false) (hS : Suf s a r) (hs : s.size ≤ 4096) (hN2 : r.length < N + 1) (hh : headIs 40 r = true) :
    Calls Try.prog 82 #[.pointer (some ⟨rb, 0, none⟩)] w (RA (exV w.heap.size) exJ w rb s (atomP F r)) := by
  have hrb := hA.lt
  cases F with
  | zero => omega
  | succ F =>
  have hc0 : Cs w rb s none 0 [] a false (w.alloc (.cells re0 25)) := ⟨hA.alloc _, World.ownsRow_nil _ _ _ _, World.grownBy_alloc _ _ _, Blk.new w 25 re0⟩
  clear hA
  have hE : Hid (atomP (F + 1) r = (altsP F r.tail).bind closeP) := Lib.hid (by simp only [atomP, hh, if_true])
  obtain ⟨hlt, _, hS1⟩ := headIs_lt hS hh
  have htl := tail_lt hh
  go_enter Try.func82, Try.ntmps82
  have hisw2 := is_k 40 _ rb s a false r hc0.at_ hS hs
  rw [hh] at hisw2
  go_wp2_with (fail)
  refine hisw2.mono ?_
  rintro e w2 ⟨rfl, _, hgw2⟩
  have hc2 := hc0.kept hgw2
  clear hisw2
  obtain ⟨c0, c1, c2⟩ := hc2.at_.cells
  have f1 := hc2.at_.frozen 1
  have hl1 := hc2.at_.lt
  clear hc0
  go_wp2_with (fail)
  have hc3 := hc2.step (grownBy_set w2 rb 1 (.int .i64 ((a : Int) + 1))) (hc2.at_.set (a + 1) _ (by simp))
  generalize w2.setCell ⟨rb, 1, none⟩ (.int .i64 ((a : Int) + 1)) = W3 at hc3 ⊢
  clear c0 c1 c2 f1 hl1 hc2
  refine (ih W3 rb s (a + 1) r.tail F (by omega) (by omega) hc3.at_ hS1 hs).mono ?_
  rintro e w4 hans
  have hz3 := hc3.res.lt
  have hrb3 := hc3.at_.lt
  rcases hans.parts with ⟨x, r4, a4, val, hd, rfl, ⟨ea, rfl, rfl, hea⟩, hS4, hA4, hg4⟩ | ⟨r4, a4, val, hd, rfl, ⟨ea, rfl⟩, hS4, hA4, hg4⟩
  · have hc4 := hc3.step hg4 hA4
    have HD := Lib.hid hd
    have hea5 := hea.grow (World.grownBy_alloc w4 (.cells ea.cells 25) none) (fun i e => by cases e)
    have hc5 := hc4.alloc (.cells ea.cells 25)
    have hC5 := Blk.new w4 25 ea.cells
    clear hd hans hea hg4 hA4 hc3
    have hz4 := hc4.res.lt
    have hr4 := hc4.at_.lt
    dsimp only [Ea.val, itemV]
    dsimp only [Ea.cells] at hea5 hc5 hC5
    by_cases hh4 : headIs 41 r4 = true
    · have his6 := is_k 41 _ rb s a4 false r4 hc5.at_ hS4 hs
      rw [hh4] at his6
      obtain ⟨hlt4, _, hS5⟩ := headIs_lt hS4 hh4
      have HH := Lib.hid hh4
      clear hh4
      go_wp2_with (fail)
      refine his6.mono ?_
      rintro e w6 ⟨rfl, _, hg6⟩
      have hc6 := hc5.kept hg6
      have hC6 := hC5.kept hg6 (by simp)
      have hea6 := hea5.grow hg6 (fun i e => by cases e)
      clear his6 hc5 hC5 hea5 hg6
      obtain ⟨c0, c1, c2⟩ := hc6.at_.cells
      have q1 := hc6.at_.frozen 1
      have hl1 := hc6.at_.lt
      have b0 := hC6.cell 0
      have b1 := hC6.cell 1
      have b2 := hC6.cell 2
      simp only [List.getElem?_cons_zero, List.getElem?_cons_succ] at b0 b1 b2
      have z0 := hc6.res.cell 0
      have z1 := hc6.res.cell 1
      have z2 := hc6.res.cell 2
      have f0 := hc6.res.frozen 0
      have f1 := hc6.res.frozen 1
      have f2 := hc6.res.frozen 2
      simp only [List.getElem?_cons_zero, List.getElem?_cons_succ] at z0 z1 z2
      have hbl := hc6.res.lt
      have hcl := hC6.lt
      go_wp2_with (fail)
      have hc7 := hc6.step (grownBy_set w6 rb 1 (.int .i64 ((a4 : Int) + 1))) (hc6.at_.set (a4 + 1) _ (by simp))
      have hea7 := hea6.grow (grownBy_set w6 rb 1 (.int .i64 ((a4 : Int) + 1))) (fun i e => by cases e; omega)
      have hF := blk_put3 hc7.res (.int .i64 ea.x.h.k) (.slice ea.sa ea.x.h.set.length ea.sc) (.slice ea.a ea.x.k.len ea.c)
      have g0 := hF.cell 0
      have g1 := hF.cell 1
      have g2 := hF.cell 2
      simp only [List.getElem?_cons_zero, List.getElem?_cons_succ] at g0 g1 g2
      refine bodyPost_ret (v := ea.val) ?_ rfl (rret_cells (r := r4.tail) (n := W3.heap.size) ?_ hS5 hc7.at_ hc7.gr hea7 hz3 hrb)
      · simp [results, Try.f82, go_sem, g0, g1, g2, itemV]
      · rw [hE.out, HD.out, Rd.bind_ok, closeP, if_pos HH.out]
    · rw [Bool.not_eq_true] at hh4
      have his6 := is_k 41 _ rb s a4 false r4 hc5.at_ hS4 hs
      rw [hh4] at his6
      have HX : Hid (atomP (F + 1) r = .bad r4) := Lib.hid (by rw [hE.out, HD.out, Rd.bind_ok, closeP, if_neg (by rw [hh4]; simp)])
      clear hh4
      go_wp2_with (fail)
      refine his6.mono ?_
      rintro e w6 ⟨rfl, _, hg6⟩
      have hc6 := hc5.kept hg6
      have hC6 := hC5.kept hg6 (by simp)
      clear his6 hc5 hC5 hg6
      go_wp2_with (fail)
      refine (rfail_any w6 rb s a4 _ hc6.at_).mono ?_
      rintro e w7 ⟨rfl, hA7, hg7⟩
      have hc7 := hc6.step hg7 hA7
      have hC7 := hC6.kept hg7 (by simp; omega)
      clear hc6 hC6 hg7 hA7
      have b0 := hC7.cell 0
      have b1 := hC7.cell 1
      have b2 := hC7.cell 2
      simp only [List.getElem?_cons_zero, List.getElem?_cons_succ] at b0 b1 b2
      have z0 := hc7.res.cell 0
      have z1 := hc7.res.cell 1
      have z2 := hc7.res.cell 2
      have f0 := hc7.res.frozen 0
      have f1 := hc7.res.frozen 1
      have f2 := hc7.res.frozen 2
      simp only [List.getElem?_cons_zero, List.getElem?_cons_succ] at z0 z1 z2
      have hbl := hc7.res.lt
      have hcl := hC7.lt
      go_wp2_with (fail)
      have hF := blk_put3 hc7.res (.int .i64 ea.x.h.k) (.slice ea.sa ea.x.h.set.length ea.sc) (.slice ea.a ea.x.k.len ea.c)
      have g0 := hF.cell 0
      have g1 := hF.cell 1
      have g2 := hF.cell 2
      simp only [List.getElem?_cons_zero, List.getElem?_cons_succ] at g0 g1 g2
      refine bodyPost_ret (v := ea.val) ?_ rfl (rret_bad HX.out hS4 hc7.at_ hc7.gr hrb ea)
      simp [results, Try.f82, go_sem, g0, g1, g2, itemV]
  · have hc4 := hc3.step hg4 hA4
    have HX : Hid (atomP (F + 1) r = .bad r4) := Lib.hid (by rw [hE.out, hd, Rd.bind_bad])
    have hc5 := hc4.alloc (.cells ea.cells 25)
    have hC5 := Blk.new w4 25 ea.cells
    clear hd hans hg4 hA4 hc3
    have hz4 := hc4.res.lt
    have hr4 := hc4.at_.lt
    dsimp only [Ea.val, itemV]
    dsimp only [Ea.cells] at hc5 hC5
    have his6 := is_b 41 _ rb s a4 r4 hc5.at_ hS4 hs
    go_wp2_with (fail)
    refine his6.mono ?_
    rintro e w6 ⟨rfl, _, hg6⟩
    have hc6 := hc5.kept hg6
    have hC6 := hC5.kept hg6 (by simp)
    clear his6 hc5 hC5 hg6
    go_wp2_with (fail)
    refine (rfail_any w6 rb s a4 _ hc6.at_).mono ?_
    rintro e w7 ⟨rfl, hA7, hg7⟩
    have hc7 := hc6.step hg7 hA7
    have hC7 := hC6.kept hg7 (by simp; omega)
    clear hc6 hC6 hg7 hA7
    have b0 := hC7.cell 0
    have b1 := hC7.cell 1
    have b2 := hC7.cell 2
    simp only [List.getElem?_cons_zero, List.getElem?_cons_succ] at b0 b1 b2
    have z0 := hc7.res.cell 0
    have z1 := hc7.res.cell 1
    have z2 := hc7.res.cell 2
    have f0 := hc7.res.frozen 0
    have f1 := hc7.res.frozen 1
    have f2 := hc7.res.frozen 2
    simp only [List.getElem?_cons_zero, List.getElem?_cons_succ] at z0 z1 z2
    have hbl := hc7.res.lt
    have hcl := hC7.lt
    go_wp2_with (fail)
    have hF := blk_put3 hc7.res (.int .i64 ea.x.h.k) (.slice ea.sa ea.x.h.set.length ea.sc) (.slice ea.a ea.x.k.len ea.c)
    have g0 := hF.cell 0
    have g1 := hF.cell 1
    have g2 := hF.cell 2
    simp only [List.getElem?_cons_zero, List.getElem?_cons_succ] at g0 g1 g2
    refine bodyPost_ret (v := ea.val) ?_ rfl (rret_bad HX.out hS4 hc7.at_ hc7.gr hrb ea)
    simp [results, Try.f82, go_sem, g0, g1, g2, itemV]
end Go.Proofs.Ytkdfobnkebkpfaa

/- The reference's reader: atom, a point, a class. -/
namespace Go.Proofs.Ytkdfobnkebkpfaa
open Go.RowKit Go.Shelf
attribute [local go_sem] Oper.semAt_some

theorem Cs.below {w V V' : World} {rb : Nat} {s : ByteArray} {a : Nat} {bad : Bool} (h : Cs w rb s none 0 [] a bad V) (hb : Below V.heap.size V V') : Cs w rb s none 0 [] a bad V' :=
  ⟨Blk.below h.at_ hb h.at_.lt, World.ownsRow_nil _ _ _ _, grownBy_rb h.gr (below_grownBy hb (some rb)), h.res.below hb h.res.lt⟩

set_option maxRecDepth 100000 in
set_option maxHeartbeats 1000000 in
theorem ratom_dot (w : World) (rb : Nat) (s : ByteArray) (a : Nat) (r : List UInt8) (F : Nat) (hF : 1 ≤ F) (hA : RAt w rb s a false) (hS : Suf s a r) (hs : s.size ≤ 4096) (h40 : headIs 40 r = false) (hh : headIs 46 r = true) :
    Calls Try.prog 82 #[.pointer (some ⟨rb, 0, none⟩)] w (RA (exV w.heap.size) exJ w rb s (atomP F r)) := by
  have hrb := hA.lt
  cases F with
  | zero => omega
  | succ F =>
  have hc0 : Cs w rb s none 0 [] a false (w.alloc (.cells re0 25)) := ⟨hA.alloc _, World.ownsRow_nil _ _ _ _, World.grownBy_alloc _ _ _, Blk.new w 25 re0⟩
  clear hA
  have hE : Hid (atomP (F + 1) r = .ok (setX (othP [⟨10, 10⟩])) r.tail) := Lib.hid (by simp only [atomP, h40, hh, if_true]; rfl)
  obtain ⟨hlt, _, hS1⟩ := headIs_lt hS hh
  go_enter Try.func82, Try.ntmps82
  have hisw2 := is_k 40 _ rb s a false r hc0.at_ hS hs
  rw [h40] at hisw2
  go_wp2_with (fail)
  refine hisw2.mono ?_
  rintro e w2 ⟨rfl, _, hgw2⟩
  have hc2 := hc0.kept hgw2
  clear hisw2
  clear hc0
  have hisw3 := is_k 46 w2 rb s a false r hc2.at_ hS hs
  rw [hh] at hisw3
  go_wp2_with (fail)
  refine hisw3.mono ?_
  rintro e w3 ⟨rfl, _, hgw3⟩
  have hc3 := hc2.kept hgw3
  clear hisw3
  clear hc2
  obtain ⟨c0, c1, c2⟩ := hc3.at_.cells
  have q1 := hc3.at_.frozen 1
  have hl1 := hc3.at_.lt
  have hc6 := hc3.step (grownBy_set w3 rb 1 (.int .i64 ((a : Int) + 1))) (hc3.at_.set (a + 1) _ (by simp))
  have hc7 := hc6.alloc (.cells #[.int .u8 10, .int .u8 10] 52)
  have hsl : Sps ((w3.setCell ⟨rb, 1, none⟩ (.int .i64 ((a : Int) + 1))).alloc (.cells #[.int .u8 10, .int .u8 10] 52)) (some ⟨(w3.setCell ⟨rb, 1, none⟩ (.int .i64 ((a : Int) + 1))).heap.size, 0, none⟩) 1 [⟨10, 10⟩] := Sps.lit (w3.setCell ⟨rb, 1, none⟩ (.int .i64 ((a : Int) + 1))) ⟨10, 10⟩
  have hsz : (w3.setCell ⟨rb, 1, none⟩ (.int .i64 ((a : Int) + 1))).heap.size = w3.heap.size := by simp
  rw [hsz] at hsl
  have hot := rothers_any _ _ [⟨10, 10⟩] _ hsl
  have hz7 := hc7.res.lt
  go_wp2_with (fail)
  generalize World.alloc _ _ = W7 at hc7 hot hz7 ⊢
  clear hc6 hsl hsz c0 c1 c2 q1 hl1
  obtain ⟨OL, hOL⟩ : ∃ OL, Hid (othP [⟨10, 10⟩] = OL) := ⟨_, Lib.hid rfl⟩
  rw [hOL.out] at hot hE
  refine hot.mono ?_
  rintro e w8 ⟨⟨a5, c5, rfl, hs5, hl5⟩, hb5⟩
  have hc8 := hc7.below hb5
  have hea : EaP (fun b => W7.heap.size ≤ b ∧ b < w8.heap.size) w8 ⟨setX OL, a5, c5, none, 0⟩ := by
    rw [← hOL.out] at hs5 ⊢
    exact set_ea (w := W7) (p := fun c => !inSp [⟨10, 10⟩] c) hs5 hl5
  have z0 := hc8.res.cell 0
  have z1 := hc8.res.cell 1
  have z2 := hc8.res.cell 2
  have f0 := hc8.res.frozen 0
  have f1 := hc8.res.frozen 1
  have f2 := hc8.res.frozen 2
  simp only [List.getElem?_cons_zero, List.getElem?_cons_succ] at z0 z1 z2
  have hbl := hc8.res.lt
  go_wp2_with (fail)
  have hF := blk_put3 hc8.res (.int .i64 2) (.slice a5 OL.length c5) (.slice none 0 0)
  have g0 := hF.cell 0
  have g1 := hF.cell 1
  have g2 := hF.cell 2
  simp only [List.getElem?_cons_zero, List.getElem?_cons_succ] at g0 g1 g2
  refine bodyPost_ret (v := Ea.val (⟨setX OL, a5, c5, none, 0⟩ : Ea)) ?_ rfl (rret_cells (e := (⟨setX OL, a5, c5, none, 0⟩ : Ea)) (n := W7.heap.size) hE.out hS1 hc8.at_ hc8.gr hea hz7 hrb)
  simp [results, Try.f82, go_sem, g0, g1, g2, itemV, setX, oneX, Fo.len]
set_option maxRecDepth 100000 in
set_option maxHeartbeats 1000000 in
theorem ratom_class (w : World) (rb : Nat) (s : ByteArray) (a : Nat) (r : List UInt8) (F : Nat) (hF : 1 ≤ F) (hA : RAt w rb s a false) (hS : Suf s a r) (hs : s.size ≤ 4096) (h40 : headIs 40 r = false) (h46 : headIs 46 r = false) (hh : headIs 91 r = true) :
    Calls Try.prog 82 #[.pointer (some ⟨rb, 0, none⟩)] w (RA (exV w.heap.size) exJ w rb s (atomP F r)) := by
  have hrb := hA.lt
  cases F with
  | zero => omega
  | succ F =>
  have hc0 : Cs w rb s none 0 [] a false (w.alloc (.cells re0 25)) := ⟨hA.alloc _, World.ownsRow_nil _ _ _ _, World.grownBy_alloc _ _ _, Blk.new w 25 re0⟩
  clear hA
  have hE : Hid (atomP (F + 1) r = ((classP r.tail).bind fun x r1 => .ok (setX (spP (setM x) 256)) r1)) := Lib.hid (by simp only [atomP, h40, h46, hh, if_true, Bool.false_eq_true, if_false])
  obtain ⟨hlt, _, hS1⟩ := headIs_lt hS hh
  go_enter Try.func82, Try.ntmps82
  have hisw2 := is_k 40 _ rb s a false r hc0.at_ hS hs
  rw [h40] at hisw2
  go_wp2_with (fail)
  refine hisw2.mono ?_
  rintro e w2 ⟨rfl, _, hgw2⟩
  have hc2 := hc0.kept hgw2
  clear hisw2
  clear hc0
  have hisw3 := is_k 46 w2 rb s a false r hc2.at_ hS hs
  rw [h46] at hisw3
  go_wp2_with (fail)
  refine hisw3.mono ?_
  rintro e w3 ⟨rfl, _, hgw3⟩
  have hc3 := hc2.kept hgw3
  clear hisw3
  clear hc2
  have hisw4 := is_k 91 w3 rb s a false r hc3.at_ hS hs
  rw [hh] at hisw4
  go_wp2_with (fail)
  refine hisw4.mono ?_
  rintro e w4 ⟨rfl, _, hgw4⟩
  have hc4 := hc3.kept hgw4
  clear hisw4
  clear hc3
  have hz7 := hc4.res.lt
  have hr7 := hc4.at_.lt
  go_wp2_with (fail)
  refine (rclass_any w4 rb s a r.tail hc4.at_ hS1 hs).mono ?_
  rintro e w8 hans
  rcases hans.parts with ⟨x, r4, a4, val, hd, rfl, ⟨ea, rfl, rfl, hea⟩, hS4, hA4, hg4⟩ | ⟨r4, a4, val, hd, rfl, ⟨ea, rfl⟩, hS4, hA4, hg4⟩
  · have hc8 := hc4.step hg4 hA4
    have HX : Hid (atomP (F + 1) r = .ok ea.x r4) := Lib.hid (by rw [hE.out, hd])
    clear hd hans hc4 hA4 hg4
    dsimp only [Ea.val, itemV]
    have z0 := hc8.res.cell 0
    have z1 := hc8.res.cell 1
    have z2 := hc8.res.cell 2
    have f0 := hc8.res.frozen 0
    have f1 := hc8.res.frozen 1
    have f2 := hc8.res.frozen 2
    simp only [List.getElem?_cons_zero, List.getElem?_cons_succ] at z0 z1 z2
    have hbl := hc8.res.lt
    go_wp2_with (fail)
    have hF := blk_put3 hc8.res (.int .i64 ea.x.h.k) (.slice ea.sa ea.x.h.set.length ea.sc) (.slice ea.a ea.x.k.len ea.c)
    have g0 := hF.cell 0
    have g1 := hF.cell 1
    have g2 := hF.cell 2
    simp only [List.getElem?_cons_zero, List.getElem?_cons_succ] at g0 g1 g2
    refine bodyPost_ret (v := Ea.val ea) ?_ rfl (rret_cells (e := ea) (n := w4.heap.size) HX.out hS4 hc8.at_ hc8.gr hea hz7 hrb)
    simp [results, Try.f82, go_sem, g0, g1, g2, itemV, setX, oneX, Fo.len]
  · have hc8 := hc4.step hg4 hA4
    have HX : Hid (atomP (F + 1) r = .bad r4) := Lib.hid (by rw [hE.out, hd])
    clear hd hans hc4 hA4 hg4
    dsimp only [Ea.val, itemV]
    have z0 := hc8.res.cell 0
    have z1 := hc8.res.cell 1
    have z2 := hc8.res.cell 2
    have f0 := hc8.res.frozen 0
    have f1 := hc8.res.frozen 1
    have f2 := hc8.res.frozen 2
    simp only [List.getElem?_cons_zero, List.getElem?_cons_succ] at z0 z1 z2
    have hbl := hc8.res.lt
    go_wp2_with (fail)
    have hF := blk_put3 hc8.res (.int .i64 ea.x.h.k) (.slice ea.sa ea.x.h.set.length ea.sc) (.slice ea.a ea.x.k.len ea.c)
    have g0 := hF.cell 0
    have g1 := hF.cell 1
    have g2 := hF.cell 2
    simp only [List.getElem?_cons_zero, List.getElem?_cons_succ] at g0 g1 g2
    refine bodyPost_ret (v := Ea.val ea) ?_ rfl (rret_bad HX.out hS4 hc8.at_ hc8.gr hrb ea)
    simp [results, Try.f82, go_sem, g0, g1, g2, itemV, setX, oneX, Fo.len]
end Go.Proofs.Ytkdfobnkebkpfaa

/- The reference's reader: atom, a letter. -/
namespace Go.Proofs.Ytkdfobnkebkpfaa
open Go.RowKit Go.Shelf
attribute [local go_sem] Oper.semAt_some

theorem spP_one (c : UInt8) : spP (setM ([⟨c, c⟩], false)) 256 = [⟨c, c⟩] := by
  have : setM ([⟨c, c⟩], false) = inSp [⟨c, c⟩] := by funext x; simp [setM]
  rw [this]
  refine spP_self ?_
  have hu := c.toNat_lt
  simp [ordB, ordK, okAt]
theorem letP_both {r : List UInt8} (h94 : headIs 94 r = false) (h45 : headIs 45 r = false) : letP outs r = letP specials r := by
  cases r with
  | nil => rfl
  | cons c r =>
    simp only [headIs, beq_eq_false_iff_ne, ne_eq] at h94 h45
    have h : barB outs c = barB specials c := by
      have := all_bytes (fun c => (c == 94) || (c == 45) || (barB outs c == barB specials c)) (by decide +kernel) c
      simpa [h94, h45] using this
    rw [letP, letP, h]
theorem letP_dash {r : List UInt8} (h : headIs 94 r = true ∨ headIs 45 r = true) : ∃ c, r = c :: r.tail ∧ letP outs r = .ok c r.tail := by
  rcases h with h | h
  · have e := headIs_cons h
    refine ⟨94, e, ?_⟩
    rw [e]; rfl
  · have e := headIs_cons h
    refine ⟨45, e, ?_⟩
    rw [e]; rfl

set_option maxRecDepth 100000 in
set_option maxHeartbeats 1000000 in
theorem ratom_letter (w : World) (rb : Nat) (s : ByteArray) (a : Nat) (r : List UInt8) (F : Nat) (hF : 1 ≤ F) (hA : RAt w rb s a false) (hS : Suf s a r) (hs : s.size ≤ 4096) (h40 : headIs 40 r = false) (h46 : headIs 46 r = false) (h91 : headIs 91 r = false) (h94 : headIs 94 r = false) (h45 : headIs 45 r = false) :
    Calls Try.prog 82 #[.pointer (some ⟨rb, 0, none⟩)] w (RA (exV w.heap.size) exJ w rb s (atomP F r)) := by
  have hrb := hA.lt
  cases F with
  | zero => omega
  | succ F =>
  have hc0 : Cs w rb s none 0 [] a false (w.alloc (.cells re0 25)) := ⟨hA.alloc _, World.ownsRow_nil _ _ _ _, World.grownBy_alloc _ _ _, Blk.new w 25 re0⟩
  clear hA
  have hE : Hid (atomP (F + 1) r = ((letP specials r).bind fun c r1 => .ok (setX (spP (setM ([⟨c, c⟩], false)) 256)) r1)) := Lib.hid (by simp only [atomP, h40, h46, h91, Bool.false_eq_true, if_false, letP_both h94 h45])
  go_enter Try.func82, Try.ntmps82
  have hisw2 := is_k 40 _ rb s a false r hc0.at_ hS hs
  rw [h40] at hisw2
  go_wp2_with (fail)
  refine hisw2.mono ?_
  rintro e w2 ⟨rfl, _, hgw2⟩
  have hc2 := hc0.kept hgw2
  clear hisw2
  clear hc0
  have hisw3 := is_k 46 w2 rb s a false r hc2.at_ hS hs
  rw [h46] at hisw3
  go_wp2_with (fail)
  refine hisw3.mono ?_
  rintro e w3 ⟨rfl, _, hgw3⟩
  have hc3 := hc2.kept hgw3
  clear hisw3
  clear hc2
  have hisw4 := is_k 91 w3 rb s a false r hc3.at_ hS hs
  rw [h91] at hisw4
  go_wp2_with (fail)
  refine hisw4.mono ?_
  rintro e w4 ⟨rfl, _, hgw4⟩
  have hc4 := hc3.kept hgw4
  clear hisw4
  clear hc3
  have hisw5 := is_k 94 w4 rb s a false r hc4.at_ hS hs
  rw [h94] at hisw5
  go_wp2_with (fail)
  refine hisw5.mono ?_
  rintro e w5 ⟨rfl, _, hgw5⟩
  have hc5 := hc4.kept hgw5
  clear hisw5
  clear hc4
  have hisw6 := is_k 45 w5 rb s a false r hc5.at_ hS hs
  rw [h45] at hisw6
  go_wp2_with (fail)
  refine hisw6.mono ?_
  rintro e w6 ⟨rfl, _, hgw6⟩
  have hc6 := hc5.kept hgw6
  clear hisw6
  clear hc5
  have hz7 := hc6.res.lt
  have hr7 := hc6.at_.lt
  go_wp2_with (fail)
  refine (rbyte_any w6 rb s a r hc6.at_ hS hs).mono ?_
  rintro e w8 hans
  rcases hans.parts with ⟨x, r4, a4, val, hd, rfl, rfl, hS4, hA4, hg4⟩ | ⟨r4, a4, val, hd, rfl, ⟨x, rfl⟩, hS4, hA4, hg4⟩
  · have hc8 := hc6.step hg4 hA4
    have HX : Hid (atomP (F + 1) r = .ok (oneX x) r4) := Lib.hid (by rw [hE.out, hd, Rd.bind_ok, spP_one]; rfl)
    clear hd hans hc6 hA4 hg4
    have hz8 := hc8.res.lt
    go_wp2_with (fail)
    refine (rone_any x w8).mono ?_
    rintro e w9 ⟨⟨ea, rfl, hx, hea⟩, hb9⟩
    have hc9 := hc8.below hb9
    rw [← hx] at HX
    clear hx
    dsimp only [Ea.val, itemV]
    have z0 := hc9.res.cell 0
    have z1 := hc9.res.cell 1
    have z2 := hc9.res.cell 2
    have f0 := hc9.res.frozen 0
    have f1 := hc9.res.frozen 1
    have f2 := hc9.res.frozen 2
    simp only [List.getElem?_cons_zero, List.getElem?_cons_succ] at z0 z1 z2
    have hbl := hc9.res.lt
    go_wp2_with (fail)
    have hF := blk_put3 hc9.res (.int .i64 ea.x.h.k) (.slice ea.sa ea.x.h.set.length ea.sc) (.slice ea.a ea.x.k.len ea.c)
    have g0 := hF.cell 0
    have g1 := hF.cell 1
    have g2 := hF.cell 2
    simp only [List.getElem?_cons_zero, List.getElem?_cons_succ] at g0 g1 g2
    refine bodyPost_ret (v := Ea.val ea) ?_ rfl (rret_cells (e := ea) (n := w8.heap.size) HX.out hS4 hc9.at_ hc9.gr hea hz8 hrb)
    simp [results, Try.f82, go_sem, g0, g1, g2, itemV, setX, oneX, Fo.len]
  · have hc8 := hc6.step hg4 hA4
    have HX : Hid (atomP (F + 1) r = .bad r4) := Lib.hid (by rw [hE.out, hd]; rfl)
    clear hd hans hc6 hA4 hg4
    go_wp2_with (fail)
    refine (rone_any x w8).mono ?_
    rintro e w9 ⟨⟨ea, rfl, hx, hea⟩, hb9⟩
    have hc9 := hc8.below hb9
    clear hx
    dsimp only [Ea.val, itemV]
    have z0 := hc9.res.cell 0
    have z1 := hc9.res.cell 1
    have z2 := hc9.res.cell 2
    have f0 := hc9.res.frozen 0
    have f1 := hc9.res.frozen 1
    have f2 := hc9.res.frozen 2
    simp only [List.getElem?_cons_zero, List.getElem?_cons_succ] at z0 z1 z2
    have hbl := hc9.res.lt
    go_wp2_with (fail)
    have hF := blk_put3 hc9.res (.int .i64 ea.x.h.k) (.slice ea.sa ea.x.h.set.length ea.sc) (.slice ea.a ea.x.k.len ea.c)
    have g0 := hF.cell 0
    have g1 := hF.cell 1
    have g2 := hF.cell 2
    simp only [List.getElem?_cons_zero, List.getElem?_cons_succ] at g0 g1 g2
    refine bodyPost_ret (v := Ea.val ea) ?_ rfl (rret_bad HX.out hS4 hc9.at_ hc9.gr hrb ea)
    simp [results, Try.f82, go_sem, g0, g1, g2, itemV, setX, oneX, Fo.len]
end Go.Proofs.Ytkdfobnkebkpfaa

/- The reference's reader: atom, a caret, a dash. -/
namespace Go.Proofs.Ytkdfobnkebkpfaa
open Go.RowKit Go.Shelf
attribute [local go_sem] Oper.semAt_some

set_option maxRecDepth 100000 in
set_option maxHeartbeats 1000000 in
theorem ratom_caret (w : World) (rb : Nat) (s : ByteArray) (a : Nat) (r : List UInt8) (F : Nat) (hF : 1 ≤ F) (hA : RAt w rb s a false) (hS : Suf s a r) (hs : s.size ≤ 4096) (h40 : headIs 40 r = false) (h46 : headIs 46 r = false) (h91 : headIs 91 r = false) (h94 : headIs 94 r = true) :
    Calls Try.prog 82 #[.pointer (some ⟨rb, 0, none⟩)] w (RA (exV w.heap.size) exJ w rb s (atomP F r)) := by
  have hrb := hA.lt
  cases F with
  | zero => omega
  | succ F =>
  have hc0 : Cs w rb s none 0 [] a false (w.alloc (.cells re0 25)) := ⟨hA.alloc _, World.ownsRow_nil _ _ _ _, World.grownBy_alloc _ _ _, Blk.new w 25 re0⟩
  clear hA
  obtain ⟨u, hru, hlt0⟩ := letP_dash (r := r) (.inl h94)
  have hE : Hid (atomP (F + 1) r = .ok (oneX u) r.tail) := Lib.hid (by simp only [atomP, h40, h46, h91, Bool.false_eq_true, if_false, hlt0, Rd.bind_ok, spP_one]; rfl)
  obtain ⟨hlt, hcu, hS1⟩ := (hru ▸ hS : Suf s a (u :: r.tail)).cons
  clear hru hlt0
  go_enter Try.func82, Try.ntmps82
  have hisw2 := is_k 40 _ rb s a false r hc0.at_ hS hs
  rw [h40] at hisw2
  go_wp2_with (fail)
  refine hisw2.mono ?_
  rintro e w2 ⟨rfl, _, hgw2⟩
  have hc2 := hc0.kept hgw2
  clear hisw2
  clear hc0
  have hisw3 := is_k 46 w2 rb s a false r hc2.at_ hS hs
  rw [h46] at hisw3
  go_wp2_with (fail)
  refine hisw3.mono ?_
  rintro e w3 ⟨rfl, _, hgw3⟩
  have hc3 := hc2.kept hgw3
  clear hisw3
  clear hc2
  have hisw4 := is_k 91 w3 rb s a false r hc3.at_ hS hs
  rw [h91] at hisw4
  go_wp2_with (fail)
  refine hisw4.mono ?_
  rintro e w4 ⟨rfl, _, hgw4⟩
  have hc4 := hc3.kept hgw4
  clear hisw4
  clear hc3
  have hisw5 := is_k 94 w4 rb s a false r hc4.at_ hS hs
  rw [h94] at hisw5
  go_wp2_with (fail)
  refine hisw5.mono ?_
  rintro e w5 ⟨rfl, _, hgw5⟩
  have hc5 := hc4.kept hgw5
  clear hisw5
  clear hc4
  obtain ⟨c0, c1, c2⟩ := hc5.at_.cells
  have q1 := hc5.at_.frozen 1
  have hl1 := hc5.at_.lt
  go_wp2_with (fail)
  have hc7 := hc5.step (grownBy_set w5 rb 1 (.int .i64 ((a : Int) + 1))) (hc5.at_.set (a + 1) _ (by simp))
  obtain ⟨d0, d1, d2⟩ := hc7.at_.cells
  have d1' : (w5.setCell ⟨rb, 1, none⟩ (.int .i64 ((a : Int) + 1))).cell? ⟨rb, 1, none⟩ = some (.int .i64 ((a : Int) + 1)) := by rw [d1]; simp
  clear d1 c0 c1 c2 q1 hl1
  have hz7 := hc7.res.lt
  have z0 := hc7.res.cell 0
  have z1 := hc7.res.cell 1
  have z2 := hc7.res.cell 2
  simp only [List.getElem?_cons_zero, List.getElem?_cons_succ] at z0 z1 z2
  generalize w5.setCell ⟨rb, 1, none⟩ (.int .i64 ((a : Int) + 1)) = W7 at hc7 d0 d1' d2 hz7 z0 z1 z2 ⊢
  have hw1 : IntKind.i64.wrap (a : Int) = (a : Int) := by rw [IntKind.wrap_i64]; omega
  have hq3 : (a : Int) < (s.size : Int) := by omega
  go_still_tail 10, (by kernel_rfl)
  change wpList _ _ _ _ _ W7.drew
  have hc8 := hc7.kept (grownBy_drewN W7 1 none)
  change Cs w rb s none 0 [] (a + 1) false W7.drew at hc8
  clear hc7 d0 d1' d2 hz7 z0 z1 z2
  have hz8 := hc8.res.lt
  generalize W7.drew = W8 at hc8 hz8 ⊢
  go_wp2_with (fail)
  refine (rone_any u W8).mono ?_
  rintro e w9 ⟨⟨ea, rfl, hx, hea⟩, hb9⟩
  have hc9 := hc8.below hb9
  rw [← hx] at hE
  clear hx
  dsimp only [Ea.val, itemV]
  have z0 := hc9.res.cell 0
  have z1 := hc9.res.cell 1
  have z2 := hc9.res.cell 2
  have f0 := hc9.res.frozen 0
  have f1 := hc9.res.frozen 1
  have f2 := hc9.res.frozen 2
  simp only [List.getElem?_cons_zero, List.getElem?_cons_succ] at z0 z1 z2
  have hbl := hc9.res.lt
  go_wp2_with (fail)
  have hF := blk_put3 hc9.res (.int .i64 ea.x.h.k) (.slice ea.sa ea.x.h.set.length ea.sc) (.slice ea.a ea.x.k.len ea.c)
  have g0 := hF.cell 0
  have g1 := hF.cell 1
  have g2 := hF.cell 2
  simp only [List.getElem?_cons_zero, List.getElem?_cons_succ] at g0 g1 g2
  refine bodyPost_ret (v := Ea.val ea) ?_ rfl (rret_cells (e := ea) (n := W8.heap.size) hE.out hS1 hc9.at_ hc9.gr hea hz8 hrb)
  simp [results, Try.f82, go_sem, g0, g1, g2, itemV, setX, oneX, Fo.len]
set_option maxRecDepth 100000 in
set_option maxHeartbeats 1000000 in
theorem ratom_dash (w : World) (rb : Nat) (s : ByteArray) (a : Nat) (r : List UInt8) (F : Nat) (hF : 1 ≤ F) (hA : RAt w rb s a false) (hS : Suf s a r) (hs : s.size ≤ 4096) (h40 : headIs 40 r = false) (h46 : headIs 46 r = false) (h91 : headIs 91 r = false) (h94 : headIs 94 r = false) (h45 : headIs 45 r = true) :
    Calls Try.prog 82 #[.pointer (some ⟨rb, 0, none⟩)] w (RA (exV w.heap.size) exJ w rb s (atomP F r)) := by
  have hrb := hA.lt
  cases F with
  | zero => omega
  | succ F =>
  have hc0 : Cs w rb s none 0 [] a false (w.alloc (.cells re0 25)) := ⟨hA.alloc _, World.ownsRow_nil _ _ _ _, World.grownBy_alloc _ _ _, Blk.new w 25 re0⟩
  clear hA
  obtain ⟨u, hru, hlt0⟩ := letP_dash (r := r) (.inr h45)
  have hE : Hid (atomP (F + 1) r = .ok (oneX u) r.tail) := Lib.hid (by simp only [atomP, h40, h46, h91, Bool.false_eq_true, if_false, hlt0, Rd.bind_ok, spP_one]; rfl)
  obtain ⟨hlt, hcu, hS1⟩ := (hru ▸ hS : Suf s a (u :: r.tail)).cons
  clear hru hlt0
  go_enter Try.func82, Try.ntmps82
  have hisw2 := is_k 40 _ rb s a false r hc0.at_ hS hs
  rw [h40] at hisw2
  go_wp2_with (fail)
  refine hisw2.mono ?_
  rintro e w2 ⟨rfl, _, hgw2⟩
  have hc2 := hc0.kept hgw2
  clear hisw2
  clear hc0
  have hisw3 := is_k 46 w2 rb s a false r hc2.at_ hS hs
  rw [h46] at hisw3
  go_wp2_with (fail)
  refine hisw3.mono ?_
  rintro e w3 ⟨rfl, _, hgw3⟩
  have hc3 := hc2.kept hgw3
  clear hisw3
  clear hc2
  have hisw4 := is_k 91 w3 rb s a false r hc3.at_ hS hs
  rw [h91] at hisw4
  go_wp2_with (fail)
  refine hisw4.mono ?_
  rintro e w4 ⟨rfl, _, hgw4⟩
  have hc4 := hc3.kept hgw4
  clear hisw4
  clear hc3
  have hisw5 := is_k 94 w4 rb s a false r hc4.at_ hS hs
  rw [h94] at hisw5
  go_wp2_with (fail)
  refine hisw5.mono ?_
  rintro e w5 ⟨rfl, _, hgw5⟩
  have hc5 := hc4.kept hgw5
  clear hisw5
  clear hc4
  have hisw6 := is_k 45 w5 rb s a false r hc5.at_ hS hs
  rw [h45] at hisw6
  go_wp2_with (fail)
  refine hisw6.mono ?_
  rintro e w6 ⟨rfl, _, hgw6⟩
  have hc6 := hc5.kept hgw6
  clear hisw6
  clear hc5
  obtain ⟨c0, c1, c2⟩ := hc6.at_.cells
  have q1 := hc6.at_.frozen 1
  have hl1 := hc6.at_.lt
  go_wp2_with (fail)
  have hc7 := hc6.step (grownBy_set w6 rb 1 (.int .i64 ((a : Int) + 1))) (hc6.at_.set (a + 1) _ (by simp))
  obtain ⟨d0, d1, d2⟩ := hc7.at_.cells
  have d1' : (w6.setCell ⟨rb, 1, none⟩ (.int .i64 ((a : Int) + 1))).cell? ⟨rb, 1, none⟩ = some (.int .i64 ((a : Int) + 1)) := by rw [d1]; simp
  clear d1 c0 c1 c2 q1 hl1
  have hz7 := hc7.res.lt
  have z0 := hc7.res.cell 0
  have z1 := hc7.res.cell 1
  have z2 := hc7.res.cell 2
  simp only [List.getElem?_cons_zero, List.getElem?_cons_succ] at z0 z1 z2
  generalize w6.setCell ⟨rb, 1, none⟩ (.int .i64 ((a : Int) + 1)) = W7 at hc7 d0 d1' d2 hz7 z0 z1 z2 ⊢
  have hw1 : IntKind.i64.wrap (a : Int) = (a : Int) := by rw [IntKind.wrap_i64]; omega
  have hq3 : (a : Int) < (s.size : Int) := by omega
  go_still_tail 10, (by kernel_rfl)
  change wpList _ _ _ _ _ W7.drew
  have hc8 := hc7.kept (grownBy_drewN W7 1 none)
  change Cs w rb s none 0 [] (a + 1) false W7.drew at hc8
  clear hc7 d0 d1' d2 hz7 z0 z1 z2
  have hz8 := hc8.res.lt
  generalize W7.drew = W8 at hc8 hz8 ⊢
  go_wp2_with (fail)
  refine (rone_any u W8).mono ?_
  rintro e w9 ⟨⟨ea, rfl, hx, hea⟩, hb9⟩
  have hc9 := hc8.below hb9
  rw [← hx] at hE
  clear hx
  dsimp only [Ea.val, itemV]
  have z0 := hc9.res.cell 0
  have z1 := hc9.res.cell 1
  have z2 := hc9.res.cell 2
  have f0 := hc9.res.frozen 0
  have f1 := hc9.res.frozen 1
  have f2 := hc9.res.frozen 2
  simp only [List.getElem?_cons_zero, List.getElem?_cons_succ] at z0 z1 z2
  have hbl := hc9.res.lt
  go_wp2_with (fail)
  have hF := blk_put3 hc9.res (.int .i64 ea.x.h.k) (.slice ea.sa ea.x.h.set.length ea.sc) (.slice ea.a ea.x.k.len ea.c)
  have g0 := hF.cell 0
  have g1 := hF.cell 1
  have g2 := hF.cell 2
  simp only [List.getElem?_cons_zero, List.getElem?_cons_succ] at g0 g1 g2
  refine bodyPost_ret (v := Ea.val ea) ?_ rfl (rret_cells (e := ea) (n := W8.heap.size) hE.out hS1 hc9.at_ hc9.gr hea hz8 hrb)
  simp [results, Try.f82, go_sem, g0, g1, g2, itemV, setX, oneX, Fo.len]
theorem ratom_any (N : Nat) (ih : RAltsC N) (w : World) (rb : Nat) (s : ByteArray) (a : Nat) (r : List UInt8) (F : Nat) (hN : r.length < N + 1) (hF : 8 * r.length + 1 ≤ F) (hA : RAt w rb s a false) (hS : Suf s a r) (hs : s.size ≤ 4096) :
    Calls Try.prog 82 #[.pointer (some ⟨rb, 0, none⟩)] w (RA (exV w.heap.size) exJ w rb s (atomP F r)) := by
  cases h40 : headIs 40 r with
  | true => exact ratom_paren N ih w rb s a r F hF hA hS hs hN h40
  | false =>
  cases h46 : headIs 46 r with
  | true => exact ratom_dot w rb s a r F (by omega) hA hS hs h40 h46
  | false =>
  cases h91 : headIs 91 r with
  | true => exact ratom_class w rb s a r F (by omega) hA hS hs h40 h46 h91
  | false =>
  cases h94 : headIs 94 r with
  | true => exact ratom_caret w rb s a r F (by omega) hA hS hs h40 h46 h91 h94
  | false =>
  cases h45 : headIs 45 r with
  | true => exact ratom_dash w rb s a r F (by omega) hA hS hs h40 h46 h91 h94 h45
  | false => exact ratom_letter w rb s a r F (by omega) hA hS hs h40 h46 h91 h94 h45
end Go.Proofs.Ytkdfobnkebkpfaa
