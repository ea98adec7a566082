/- Texts of layer 2 joined: Uv Uw Ux Uy Uz. -/
import Derived.Test.YtkdfobnkebkpfaaJU6
import Derived.Test.YtkdfobnkebkpfaaJU3
set_option linter.unusedVariables false
set_option linter.unusedSimpArgs false
/- The reference's reader: piece. -/
namespace Go.Proofs.Ytkdfobnkebkpfaa
open Go.RowKit Go.Shelf
attribute [local go_sem] Oper.semAt_some

/-- What piece holds on the way: the expression so far stands in a box. -/
structure Pb (w : World) (rb bx : Nat) (s : ByteArray) (eb : Ea) (a : Nat) (bad : Bool) (V : World) : Prop where
  at_ : RAt V rb s a bad
  gr : w.grownBy V (some rb)
  res : Blk V w.heap.size 25 [.int .i64 0, .slice none 0 0, .slice none 0 0]
  box : Blk V bx 25 eb.row
def PbE (w : World) (bx : Nat) (eb : Ea) (V : World) : Prop := EaP (fun b => w.heap.size + 1 ≤ b ∧ b < V.heap.size ∧ b ≠ bx) V eb
theorem Pb.kept {w V V' : World} {rb bx : Nat} {s : ByteArray} {eb : Ea} {a : Nat} {bad : Bool} (h : Pb w rb bx s eb a bad V) (hg : V.grownBy V' none) : Pb w rb bx s eb a bad V' :=
  ⟨h.at_.kept hg (by simp), grownBy_rb h.gr (grown_none hg), h.res.kept hg (by simp), h.box.kept hg (by simp)⟩
theorem PbE.kept {w V V' : World} {bx : Nat} {eb : Ea} (h : PbE w bx eb V) (hg : V.grownBy V' none) : PbE w bx eb V' :=
  h.move (fun b hp hlt => ⟨⟨hp.1, Nat.lt_of_lt_of_le hp.2.1 hg.size, hp.2.2⟩, hg.block b hlt (by simp)⟩)
def RPcI (w : World) (rb bx : Nat) (s : ByteArray) (X : Rd Ex) (V : World) : Prop :=
  ∃ (eb : Ea) (r : List UInt8) (a : Nat) (bad : Bool), Suf s a r ∧ Pb w rb bx s eb a bad V ∧ (bad = true ∧ X = .bad r ∨ bad = false ∧ PbE w bx eb V ∧ X = .ok (repsP eb.x r).1 (repsP eb.x r).2)
theorem rpc_step {w : World} {rb bx : Nat} {s : ByteArray} {X : Rd Ex} {V : World} {eb : Ea} {r3 : List UInt8} {a2 : Nat} {k : Int} (hS : Suf s (a2 + 1) r3) (hP : Pb w rb bx s eb a2 false V) (he : PbE w bx eb V)
    (hrb : rb < w.heap.size) (hbx : w.heap.size < bx) (hX : X = .ok (repsP ⟨⟨k, []⟩, .cons eb.x.h eb.x.k .nil⟩ r3).1 (repsP ⟨⟨k, []⟩, .cons eb.x.h eb.x.k .nil⟩ r3).2) :
    RPcI w rb bx s X (((((V.setCell ⟨bx, 0, none⟩ (.int .i64 k)).setCell ⟨bx, 1, none⟩ (.slice none 0 0)).setCell ⟨bx, 2, none⟩ (.slice (some ⟨V.heap.size, 0, none⟩) 1 1)).setCell ⟨rb, 1, none⟩ (.int .i64 ((a2 : Int) + 1))).alloc (.cells #[.int .i64 eb.x.h.k, .slice eb.sa eb.x.h.set.length eb.sc, .slice eb.a eb.x.k.len eb.c] 25)) ∧
    RAt (((((V.setCell ⟨bx, 0, none⟩ (.int .i64 k)).setCell ⟨bx, 1, none⟩ (.slice none 0 0)).setCell ⟨bx, 2, none⟩ (.slice (some ⟨V.heap.size, 0, none⟩) 1 1)).setCell ⟨rb, 1, none⟩ (.int .i64 ((a2 : Int) + 1))).alloc (.cells #[.int .i64 eb.x.h.k, .slice eb.sa eb.x.h.set.length eb.sc, .slice eb.a eb.x.k.len eb.c] 25)) rb s (a2 + 1) false := by
  have hA3 := ((hP.at_.put3 (b := bx) (by omega) (.int .i64 k) (.slice none 0 0) (.slice (some ⟨V.heap.size, 0, none⟩) 1 1)).set (a2 + 1) (.int .i64 ((a2 : Int) + 1)) (by simp)).alloc (.cells #[.int .i64 eb.x.h.k, .slice eb.sa eb.x.h.set.length eb.sc, .slice eb.a eb.x.k.len eb.c] 25)
  have hC3 := (Blk.setOther (b' := rb) (j := 1) (blk_put3 hP.box (.int .i64 k) (.slice none 0 0) (.slice (some ⟨V.heap.size, 0, none⟩) 1 1)) (by omega) (.int .i64 ((a2 : Int) + 1))).alloc (.cells #[.int .i64 eb.x.h.k, .slice eb.sa eb.x.h.set.length eb.sc, .slice eb.a eb.x.k.len eb.c] 25)
  have hB3 := ((((hP.res.setOther (b' := bx) (j := 0) (by omega) (.int .i64 k)).setOther (b' := bx) (j := 1) (by omega) (.slice none 0 0)).setOther (b' := bx) (j := 2) (by omega) (.slice (some ⟨V.heap.size, 0, none⟩) 1 1)).setOther (b' := rb) (j := 1) (by omega) (.int .i64 ((a2 : Int) + 1))).alloc (.cells #[.int .i64 eb.x.h.k, .slice eb.sa eb.x.h.set.length eb.sc, .slice eb.a eb.x.k.len eb.c] 25)
  have hsz : ((((V.setCell ⟨bx, 0, none⟩ (.int .i64 k)).setCell ⟨bx, 1, none⟩ (.slice none 0 0)).setCell ⟨bx, 2, none⟩ (.slice (some ⟨V.heap.size, 0, none⟩) 1 1)).setCell ⟨rb, 1, none⟩ (.int .i64 ((a2 : Int) + 1))).heap.size = V.heap.size := by
    simp [World.setCell]
  have hN := Blk.new ((((V.setCell ⟨bx, 0, none⟩ (.int .i64 k)).setCell ⟨bx, 1, none⟩ (.slice none 0 0)).setCell ⟨bx, 2, none⟩ (.slice (some ⟨V.heap.size, 0, none⟩) 1 1)).setCell ⟨rb, 1, none⟩ (.int .i64 ((a2 : Int) + 1))) 25 #[.int .i64 eb.x.h.k, .slice eb.sa eb.x.h.set.length eb.sc, .slice eb.a eb.x.k.len eb.c]
  have hg3 := grownBy_rb (grownBy_rb (grow_put3 hP.gr (Nat.le_of_lt hbx) (.int .i64 k) (.slice none 0 0) (.slice (some ⟨V.heap.size, 0, none⟩) 1 1)) (grownBy_set _ rb 1 (.int .i64 ((a2 : Int) + 1)))) (World.grownBy_alloc _ (.cells #[.int .i64 eb.x.h.k, .slice eb.sa eb.x.h.set.length eb.sc, .slice eb.a eb.x.k.len eb.c] 25) (some rb))
  have hkeep : ∀ b, b < V.heap.size → b ≠ rb → b ≠ bx → (((((V.setCell ⟨bx, 0, none⟩ (.int .i64 k)).setCell ⟨bx, 1, none⟩ (.slice none 0 0)).setCell ⟨bx, 2, none⟩ (.slice (some ⟨V.heap.size, 0, none⟩) 1 1)).setCell ⟨rb, 1, none⟩ (.int .i64 ((a2 : Int) + 1))).alloc (.cells #[.int .i64 eb.x.h.k, .slice eb.sa eb.x.h.set.length eb.sc, .slice eb.a eb.x.k.len eb.c] 25)).heap[b]? = V.heap[b]? := by
    intro b h1 h2 h3
    refine ((World.grownBy_alloc _ _ none).block b (by rw [hsz]; exact h1) (by simp)).trans ?_
    rw [Below.heap_setCell _ _ _ _ (by simpa using h2), put3_other h3]
  have hsz2 : (((((V.setCell ⟨bx, 0, none⟩ (.int .i64 k)).setCell ⟨bx, 1, none⟩ (.slice none 0 0)).setCell ⟨bx, 2, none⟩ (.slice (some ⟨V.heap.size, 0, none⟩) 1 1)).setCell ⟨rb, 1, none⟩ (.int .i64 ((a2 : Int) + 1))).alloc (.cells #[.int .i64 eb.x.h.k, .slice eb.sa eb.x.h.set.length eb.sc, .slice eb.a eb.x.k.len eb.c] 25)).heap.size = V.heap.size + 1 := by rw [World.size_alloc, hsz]
  rw [hsz] at hN
  clear hsz
  have hcl := hP.box.lt
  have hbl := hP.res.lt
  generalize World.alloc _ _ = Wf at hA3 hC3 hB3 hN hg3 hkeep hsz2 ⊢
  have heb := EaP.move he (q := fun b => w.heap.size + 1 ≤ b ∧ b < Wf.heap.size ∧ b ≠ bx) (w' := Wf) (fun b hp hlt => ⟨⟨hp.1, by omega, hp.2.2⟩, hkeep b hlt (by omega) hp.2.2⟩)
  refine ⟨?_, hA3⟩
  refine ⟨⟨⟨⟨k, []⟩, .cons eb.x.h eb.x.k .nil⟩, none, 0, some ⟨V.heap.size, 0, none⟩, 1⟩, r3, a2 + 1, false, hS, ⟨hA3, hg3, hB3, hC3⟩, .inr ⟨rfl, ⟨SpsP.nil _ _, ?_⟩, hX⟩⟩
  refine ⟨by simp [Fo.len], by show (1 : Nat) ≤ 9223372036854775807; omega, fun e => (by cases e), fun _ => ⟨V.heap.size, 0, rfl, ⟨by omega, by omega, by omega⟩, hN.cell 0, ⟨eb.sa, eb.sc, hN.cell 1, heb.sps⟩, ⟨eb.a, eb.c, hN.cell 2, heb.items.le, heb.items.max, heb.items.nil_, heb.items.at_⟩, trivial⟩⟩

theorem reps_none {r : List UInt8} {x : Ex} (h42 : headIs 42 r = false) (h43 : headIs 43 r = false) (h63 : headIs 63 r = false) : repsP x r = (x, r) := by
  cases r with
  | nil => rfl
  | cons c r =>
    simp only [headIs, beq_eq_false_iff_ne, ne_eq] at h42 h43 h63
    rw [repsP, if_neg]
    have hm := indexByte_mem reps c
    have : reps.any (fun x => x == c) = false := by
      simp [reps, Ne.symm h42, Ne.symm h43, Ne.symm h63]
    rw [this] at hm
    exact of_decide_eq_false hm

set_option maxRecDepth 100000 in
set_option maxHeartbeats 2000000 in
theorem rpiece_any (N : Nat) (ih : RAltsC N) (w : World) (rb : Nat) (s : ByteArray) (a : Nat) (r : List UInt8) (F : Nat) (hN : r.length < N + 1) (hF : 8 * r.length + 2 ≤ F) (hA : RAt w rb s a false) (hS : Suf s a r) (hs : s.size ≤ 4096) :
    Calls Try.prog 75 #[.pointer (some ⟨rb, 0, none⟩)] w (RA (exV w.heap.size) exJ w rb s (pieceP F r)) := by
  have hrb := hA.lt
  cases F with
  | zero => omega
  | succ F =>
  have hE : Hid (pieceP (F + 1) r = (atomP F r).bind fun x r1 => .ok (repsP x r1).1 (repsP x r1).2) := Lib.hid (by simp only [pieceP])
  have hB0 := Blk.new w 25 re0
  have hg0 := World.grownBy_alloc w (.cells re0 25) (some rb)
  have hA0 := hA.alloc (.cells re0 25)
  have hat := ratom_any N ih _ rb s a r F hN (by omega) hA0 hS hs
  have hsz0 : (w.alloc (.cells re0 25)).heap.size = w.heap.size + 1 := by simp
  rw [hsz0] at hat
  clear hS hA hsz0
  obtain ⟨X, HX⟩ : ∃ X, Hid (pieceP (F + 1) r = X) := ⟨_, Lib.hid rfl⟩
  rw [HX.out] at hE ⊢
  go_enter Try.func75, Try.ntmps75
  go_wp2_with (fail)
  refine hat.mono ?_
  rintro e w1 hans
  have hz1 : w.heap.size < w1.heap.size := by
    rcases hans.parts with ⟨_, _, _, _, _, _, _, _, _, hg⟩ | ⟨_, _, _, _, _, _, _, _, hg⟩ <;> exact (hB0.kept hg (by simp; omega)).lt
  have hI : ∃ ea : Ea, e = .returned ea.val ∧ RPcI w rb w1.heap.size s X (w1.alloc (.cells ea.cells 25)) := by
    rcases hans.parts with ⟨x, r1, a1, val, hd, rfl, ⟨ea, rfl, rfl, hea⟩, hS1, hA1, hg1⟩ | ⟨r1, a1, val, hd, rfl, ⟨ea, rfl⟩, hS1, hA1, hg1⟩
    · exact ⟨ea, rfl, ea, r1, a1, false, hS1, ⟨hA1.alloc _, grownBy_rb (grownBy_rb hg0 hg1) (World.grownBy_alloc w1 _ _), (hB0.kept hg1 (by simp; omega)).alloc _, Blk.new w1 25 ea.cells⟩, .inr ⟨rfl, hea.move (fun b hp hlt => ⟨⟨hp.1, by simp; omega, by omega⟩, (World.grownBy_alloc w1 _ none).block b hlt (by simp)⟩), by rw [hE.out, hd, Rd.bind_ok]⟩⟩
    · exact ⟨ea, rfl, ea, r1, a1, true, hS1, ⟨hA1.alloc _, grownBy_rb (grownBy_rb hg0 hg1) (World.grownBy_alloc w1 _ _), (hB0.kept hg1 (by simp; omega)).alloc _, Blk.new w1 25 ea.cells⟩, .inl ⟨rfl, by rw [hE.out, hd, Rd.bind_bad]⟩⟩
  obtain ⟨ea, rfl, hI⟩ := hI
  clear hans hat hB0 hg0 hA0
  dsimp only [Ea.val, itemV]
  dsimp only [Ea.cells] at hI
  go_wp2_with (fail)
  generalize w1.alloc (.cells #[.int .i64 ea.x.h.k, .slice ea.sa ea.x.h.set.length ea.sc, .slice ea.a ea.x.k.len ea.c] 25) = W1 at hI ⊢
  have hbx : Hid (w.heap.size < w1.heap.size) := Lib.hid hz1
  clear hz1
  generalize w1.heap.size = bx at hI hbx ⊢
  go_loopw [7] (fun _ wr => RPcI w rb bx s X wr) (fun _ wr => msc rb s wr)
  case atStart => exact hI
  case round =>
    obtain ⟨eb, r2, a2, bad, hS2, hP2, hw⟩ := hrel
    have hm := Lib.hid (msc_eq hP2.at_)
    have hle2 := hS2.len
    clear hI
    have hnb : rb ≠ bx := by have := hbx.out; omega
    have hnb2 : bx ≠ rb := by have := hbx.out; omega
    rcases hw with ⟨rfl, hX2⟩ | ⟨rfl, heb, hX2⟩
    · have HX2 := Lib.hid hX2
      clear hX2
      have hisp := is_b 42 wr rb s a2 r2 hP2.at_ hS2 hs
      go_wp2_with (fail)
      refine hisp.mono ?_
      rintro e vp ⟨rfl, _, hgp⟩
      have hp := hP2.kept hgp
      clear hisp hP2 hgp
      have hisq := is_b 43 vp rb s a2 r2 hp.at_ hS2 hs
      go_wp2_with (fail)
      refine hisq.mono ?_
      rintro e vq ⟨rfl, _, hgq⟩
      have hq := hp.kept hgq
      clear hisq hp hgq
      have hist := is_b 63 vq rb s a2 r2 hq.at_ hS2 hs
      go_wp2_with (fail)
      refine hist.mono ?_
      rintro e vt ⟨rfl, _, hgt⟩
      have ht := hq.kept hgt
      clear hist hq hgt
      obtain ⟨c0, c1, c2⟩ := ht.at_.cells
      have q1 := ht.at_.frozen 1
      have x0 := ht.box.cell 0
      have x1 := ht.box.cell 1
      have x2 := ht.box.cell 2
      have y0 := ht.box.frozen 0
      have y1 := ht.box.frozen 1
      have y2 := ht.box.frozen 2
      have z0 := ht.res.cell 0
      have z1 := ht.res.cell 1
      have z2 := ht.res.cell 2
      have f0 := ht.res.frozen 0
      have f1 := ht.res.frozen 1
      have f2 := ht.res.frozen 2
      simp only [Ea.row, List.getElem?_cons_zero, List.getElem?_cons_succ] at x0 x1 x2 z0 z1 z2
      have hbl := ht.res.lt
      have hcl := ht.box.lt
      have hrl := ht.at_.lt
      go_wp2_with (fail)
      have hF := blk_put3 ht.res (.int .i64 eb.x.h.k) (.slice eb.sa eb.x.h.set.length eb.sc) (.slice eb.a eb.x.k.len eb.c)
      have g0 := hF.cell 0
      have g1 := hF.cell 1
      have g2 := hF.cell 2
      simp only [List.getElem?_cons_zero, List.getElem?_cons_succ] at g0 g1 g2
      refine bodyPost_ret (v := eb.val) ?_ rfl (rret_bad HX2.out hS2 ht.at_ ht.gr hrb eb)
      simp [results, Try.f75, go_sem, g0, g1, g2, itemV]
    · have HX2 := Lib.hid hX2
      clear hX2
      cases h42 : headIs 42 r2 with
      | true =>
        have hisp := is_k 42 wr rb s a2 false r2 hP2.at_ hS2 hs
        rw [h42] at hisp
        go_wp2_with (fail)
        refine hisp.mono ?_
        rintro e vp ⟨rfl, _, hgp⟩
        have hp := hP2.kept hgp
        have ep := PbE.kept heb hgp
        clear hisp hP2 heb hgp
        obtain ⟨hlt3, _, hS3⟩ := headIs_lt hS2 h42
        have hr3 := headIs_cons h42
        have htl := tail_lt h42
        have hXn : Hid (X = .ok (repsP ⟨⟨5, []⟩, .cons eb.x.h eb.x.k .nil⟩ r2.tail).1 (repsP ⟨⟨5, []⟩, .cons eb.x.h eb.x.k .nil⟩ r2.tail).2) := Lib.hid (by rw [HX2.out, hr3]; rfl)
        clear hr3
        obtain ⟨c0, c1, c2⟩ := hp.at_.cells
        have q1 := hp.at_.frozen 1
        have x0 := hp.box.cell 0
        have x1 := hp.box.cell 1
        have x2 := hp.box.cell 2
        have y0 := hp.box.frozen 0
        have y1 := hp.box.frozen 1
        have y2 := hp.box.frozen 2
        have z0 := hp.res.cell 0
        have z1 := hp.res.cell 1
        have z2 := hp.res.cell 2
        have f0 := hp.res.frozen 0
        have f1 := hp.res.frozen 1
        have f2 := hp.res.frozen 2
        simp only [Ea.row, List.getElem?_cons_zero, List.getElem?_cons_succ] at x0 x1 x2 z0 z1 z2
        have hbl := hp.res.lt
        have hcl := hp.box.lt
        have hrl := hp.at_.lt
        obtain ⟨hst, hat3⟩ := rpc_step (k := 5) hS3 hp ep hrb hbx.out hXn.out
        go_wp2_with (fail)
        refine ⟨hst, ?_⟩
        rw [msc_eq hat3, hm.out]
        simp
        omega
      | false =>
        have hisp := is_k 42 wr rb s a2 false r2 hP2.at_ hS2 hs
        rw [h42] at hisp
        go_wp2_with (fail)
        refine hisp.mono ?_
        rintro e vp ⟨rfl, _, hgp⟩
        have hp := hP2.kept hgp
        have ep := PbE.kept heb hgp
        clear hisp hP2 heb hgp
        cases h43 : headIs 43 r2 with
        | true =>
          have hisq := is_k 43 vp rb s a2 false r2 hp.at_ hS2 hs
          rw [h43] at hisq
          go_wp2_with (fail)
          refine hisq.mono ?_
          rintro e vq ⟨rfl, _, hgq⟩
          have hq := hp.kept hgq
          have eq := PbE.kept ep hgq
          clear hisq hp ep hgq
          obtain ⟨hlt3, _, hS3⟩ := headIs_lt hS2 h43
          have hr3 := headIs_cons h43
          have htl := tail_lt h43
          have hXn : Hid (X = .ok (repsP ⟨⟨6, []⟩, .cons eb.x.h eb.x.k .nil⟩ r2.tail).1 (repsP ⟨⟨6, []⟩, .cons eb.x.h eb.x.k .nil⟩ r2.tail).2) := Lib.hid (by rw [HX2.out, hr3]; rfl)
          clear hr3
          obtain ⟨c0, c1, c2⟩ := hq.at_.cells
          have q1 := hq.at_.frozen 1
          have x0 := hq.box.cell 0
          have x1 := hq.box.cell 1
          have x2 := hq.box.cell 2
          have y0 := hq.box.frozen 0
          have y1 := hq.box.frozen 1
          have y2 := hq.box.frozen 2
          have z0 := hq.res.cell 0
          have z1 := hq.res.cell 1
          have z2 := hq.res.cell 2
          have f0 := hq.res.frozen 0
          have f1 := hq.res.frozen 1
          have f2 := hq.res.frozen 2
          simp only [Ea.row, List.getElem?_cons_zero, List.getElem?_cons_succ] at x0 x1 x2 z0 z1 z2
          have hbl := hq.res.lt
          have hcl := hq.box.lt
          have hrl := hq.at_.lt
          obtain ⟨hst, hat3⟩ := rpc_step (k := 6) hS3 hq eq hrb hbx.out hXn.out
          go_wp2_with (fail)
          refine ⟨hst, ?_⟩
          rw [msc_eq hat3, hm.out]
          simp
          omega
        | false =>
          have hisq := is_k 43 vp rb s a2 false r2 hp.at_ hS2 hs
          rw [h43] at hisq
          go_wp2_with (fail)
          refine hisq.mono ?_
          rintro e vq ⟨rfl, _, hgq⟩
          have hq := hp.kept hgq
          have eq := PbE.kept ep hgq
          clear hisq hp ep hgq
          cases h63 : headIs 63 r2 with
          | true =>
            have hist := is_k 63 vq rb s a2 false r2 hq.at_ hS2 hs
            rw [h63] at hist
            go_wp2_with (fail)
            refine hist.mono ?_
            rintro e vt ⟨rfl, _, hgt⟩
            have ht := hq.kept hgt
            have et := PbE.kept eq hgt
            clear hist hq eq hgt
            obtain ⟨hlt3, _, hS3⟩ := headIs_lt hS2 h63
            have hr3 := headIs_cons h63
            have htl := tail_lt h63
            have hXn : Hid (X = .ok (repsP ⟨⟨7, []⟩, .cons eb.x.h eb.x.k .nil⟩ r2.tail).1 (repsP ⟨⟨7, []⟩, .cons eb.x.h eb.x.k .nil⟩ r2.tail).2) := Lib.hid (by rw [HX2.out, hr3]; rfl)
            clear hr3
            obtain ⟨c0, c1, c2⟩ := ht.at_.cells
            have q1 := ht.at_.frozen 1
            have x0 := ht.box.cell 0
            have x1 := ht.box.cell 1
            have x2 := ht.box.cell 2
            have y0 := ht.box.frozen 0
            have y1 := ht.box.frozen 1
            have y2 := ht.box.frozen 2
            have z0 := ht.res.cell 0
            have z1 := ht.res.cell 1
            have z2 := ht.res.cell 2
            have f0 := ht.res.frozen 0
            have f1 := ht.res.frozen 1
            have f2 := ht.res.frozen 2
            simp only [Ea.row, List.getElem?_cons_zero, List.getElem?_cons_succ] at x0 x1 x2 z0 z1 z2
            have hbl := ht.res.lt
            have hcl := ht.box.lt
            have hrl := ht.at_.lt
            obtain ⟨hst, hat3⟩ := rpc_step (k := 7) hS3 ht et hrb hbx.out hXn.out
            go_wp2_with (fail)
            refine ⟨hst, ?_⟩
            rw [msc_eq hat3, hm.out]
            simp
            omega
          | false =>
            have hist := is_k 63 vq rb s a2 false r2 hq.at_ hS2 hs
            rw [h63] at hist
            go_wp2_with (fail)
            refine hist.mono ?_
            rintro e vt ⟨rfl, _, hgt⟩
            have ht := hq.kept hgt
            have et := PbE.kept eq hgt
            clear hist hq eq hgt
            have hXe : Hid (X = .ok eb.x r2) := Lib.hid (by rw [HX2.out, reps_none h42 h43 h63])
            clear h42 h43 h63
            obtain ⟨c0, c1, c2⟩ := ht.at_.cells
            have q1 := ht.at_.frozen 1
            have x0 := ht.box.cell 0
            have x1 := ht.box.cell 1
            have x2 := ht.box.cell 2
            have y0 := ht.box.frozen 0
            have y1 := ht.box.frozen 1
            have y2 := ht.box.frozen 2
            have z0 := ht.res.cell 0
            have z1 := ht.res.cell 1
            have z2 := ht.res.cell 2
            have f0 := ht.res.frozen 0
            have f1 := ht.res.frozen 1
            have f2 := ht.res.frozen 2
            simp only [Ea.row, List.getElem?_cons_zero, List.getElem?_cons_succ] at x0 x1 x2 z0 z1 z2
            have hbl := ht.res.lt
            have hcl := ht.box.lt
            have hrl := ht.at_.lt
            go_wp2_with (fail)
            have hF := blk_put3 ht.res (.int .i64 eb.x.h.k) (.slice eb.sa eb.x.h.set.length eb.sc) (.slice eb.a eb.x.k.len eb.c)
            have g0 := hF.cell 0
            have g1 := hF.cell 1
            have g2 := hF.cell 2
            simp only [List.getElem?_cons_zero, List.getElem?_cons_succ] at g0 g1 g2
            refine bodyPost_ret (v := eb.val) ?_ rfl (rret_cells (r := r2) (n := w.heap.size + 1) hXe.out hS2 ht.at_ ht.gr (EaP.move et (fun b hp hlt => ⟨⟨hp.1, hp.2.1⟩, rfl⟩)) (by omega) hrb)
            simp [results, Try.f75, go_sem, g0, g1, g2, itemV]
end Go.Proofs.Ytkdfobnkebkpfaa

/- The reference's reader: lists of expressions. -/
namespace Go.Proofs.Ytkdfobnkebkpfaa
open Go.RowKit Go.Shelf
attribute [local go_sem] Oper.semAt_some

/-- What is known between two pieces. -/
def RAltI (w : World) (rb : Nat) (s : ByteArray) (f : Nat → List UInt8 → List Ex → Rd Ex) (k m : Nat) (X : Rd Ex) (lv : Value) (W : World) : Prop :=
  ∃ (es : List Ea) (r : List UInt8) (a : Nat) (bad : Bool) (A : Option Addr) (C F : Nat), Suf s a r ∧ RAt W rb s a bad ∧ lv = .slice A es.length C ∧ W.ownsRow (w.heap.size + 1) 25 3 (.slice A es.length C) es.length (rowE es) ∧ w.grownBy W (some rb) ∧ Blk W w.heap.size 25 [.int .i64 0, .slice none 0 0, .slice none 0 0] ∧ es.length ≤ 4098 ∧
    (bad = true ∧ X = .bad r ∨ bad = false ∧ Lst (w.heap.size + 1) W es A C ∧ f F r (es.map (·.x)) = X ∧ 8 * r.length + k ≤ F ∧ r.length ≤ m ∧ es.length + r.length ≤ 4097)
/-- What lies in the row of its own lies in blocks made since. -/
theorem rowK {n0 : Nat} {W W' : World} {A : Option Addr} {C n : Nat} {row : List Value} (h : W.ownsRow n0 25 3 (.slice A n C) n row) {r : Option Nat} (hg : W.grownBy W' r) (hr : ∀ i, r = some i → i < n0) : W'.ownsRow n0 25 3 (.slice A n C) n row := by
  by_cases hA : (Value.slice A n C).ownBlock = none
  · exact World.ownsRow.kept h hg (.inl hA)
  · refine World.ownsRow.kept h hg (.inr fun e => ?_)
    cases hr2 : r with
    | none => exact hA (e.trans hr2)
    | some i => have := own_ge h (e.trans hr2); have := hr i hr2; omega
/-- How the list ends. -/
def RendP (n0 : Nat) (kind : Int) (bad : Bool) (V : World) (X : Rd Ex) (es : List Ea) (A : Option Addr) (C : Nat) (r : List UInt8) : Prop :=
  bad = true ∧ X = .bad r ∨ bad = false ∧ Lst n0 V es A C ∧ X = .ok (joinX kind (es.map (·.x))) r
theorem RendP.kept {n0 : Nat} {kind : Int} {bad : Bool} {V V' : World} {X : Rd Ex} {es : List Ea} {A : Option Addr} {C : Nat} {r : List UInt8} (h : RendP n0 kind bad V X es A C r) (hg : V.grownBy V' none) : RendP n0 kind bad V' X es A C r :=
  h.imp_right fun h => ⟨h.1, h.2.1.kept hg (fun i e => by cases e), h.2.2⟩
/-- What is handed back when the list is at its end. -/
theorem rleave {w V : World} {rb : Nat} {s : ByteArray} {X : Rd Ex} {es : List Ea} {r : List UInt8} {a : Nat} {bad : Bool} {A : Option Addr} {C : Nat} {kind : Int} (hS : Suf s a r) (hA : RAt V rb s a bad) (hg : w.grownBy V (some rb)) (hrb : rb < w.heap.size)
    (h : RendP (w.heap.size + 1) kind bad V X es A C r) :
    RA (exV w.heap.size) exJ w rb s X (.returned (joinE kind es A C).val) (((V.setCell ⟨w.heap.size, 0, none⟩ (.int .i64 (joinE kind es A C).x.h.k)).setCell ⟨w.heap.size, 1, none⟩ (.slice (joinE kind es A C).sa (joinE kind es A C).x.h.set.length (joinE kind es A C).sc)).setCell ⟨w.heap.size, 2, none⟩ (.slice (joinE kind es A C).a (joinE kind es A C).x.k.len (joinE kind es A C).c)) := by
  rcases h with ⟨rfl, hX⟩ | ⟨rfl, hL, hX⟩
  · exact rret_bad hX hS hA hg hrb _
  · exact rret_cells (by rw [hX, joinE_x]) hS hA hg (joinE_ea hL) (Nat.lt_succ_self _) hrb
/-- One expression more in the list. -/
theorem rmore {w V : World} {rb : Nat} {s : ByteArray} {es : List Ea} {a : Nat} {bad : Bool} {A : Option Addr} {C : Nat} (hA : RAt V rb s a bad) (hg : w.grownBy V (some rb)) (hB : Blk V w.heap.size 25 [.int .i64 0, .slice none 0 0, .slice none 0 0]) (ho : V.ownsRow (w.heap.size + 1) 25 3 (.slice A es.length C) es.length (rowE es)) (hrb : rb < w.heap.size) (hn : es.length ≤ 4098) (ea : Ea) (ty : TypeId) :
    ∃ a' c' w', (Builtin.append_ #[23, 23] ty #[.slice A es.length C, .slice (some ⟨V.heap.size, 0, none⟩) 1 1]).run Try.prog (V.alloc (.cells #[.int .i64 ea.x.h.k, .slice ea.sa ea.x.h.set.length ea.sc, .slice ea.a ea.x.k.len ea.c] 25)) = .ok (.slice a' (es.length + 1) c') w' ∧
      RAt w' rb s a bad ∧ w.grownBy w' (some rb) ∧ Blk w' w.heap.size 25 [.int .i64 0, .slice none 0 0, .slice none 0 0] ∧ w'.ownsRow (w.heap.size + 1) 25 3 (.slice a' (es ++ [ea]).length c') (es ++ [ea]).length (rowE (es ++ [ea])) ∧
      (Lst (w.heap.size + 1) V es A C → EaP (fun b => w.heap.size + 1 ≤ b ∧ b < V.heap.size ∧ (Value.slice A es.length C).ownBlock ≠ some b) V ea → Lst (w.heap.size + 1) w' (es ++ [ea]) a' c') := by
  obtain ⟨a', c', w', hrun, ho', hg', hnw⟩ := run_item V ty ea ho (by omega) hB.lt
  have hne : ∀ i, (Value.slice A es.length C).ownBlock = some i → w.heap.size + 1 ≤ i := fun i e => own_ge ho e
  have ho2 : w'.ownsRow (w.heap.size + 1) 25 3 (.slice a' (es ++ [ea]).length c') (es ++ [ea]).length (rowE (es ++ [ea])) := by rw [List.length_append, rowE_snoc]; exact ho'
  refine ⟨a', c', w', hrun, hA.kept hg' (fun e => by have := hne _ e.symm; omega), grownBy_trans hg hg' (fun i e => .inr (by have := hne i e; omega)), hB.kept hg' (fun e => by have := hne _ e.symm; omega), ho2, fun hL he => ⟨ho2, fun e hm => ?_⟩⟩
  have hq : EaP (fun b => w.heap.size + 1 ≤ b ∧ b < V.heap.size ∧ (Value.slice A es.length C).ownBlock ≠ some b) V e := by
    rcases List.mem_append.1 hm with hm | hm
    · exact hL.eas e hm
    · rw [List.mem_singleton.1 hm]; exact he
  refine hq.move fun b hp hlt => ⟨⟨hp.1, Nat.lt_of_lt_of_le hp.2.1 hg'.size, fun e => ?_⟩, hg'.block b hlt (fun e => hp.2.2 e.symm)⟩
  rcases hnw.block (l := es.length) (c := C) b (by simpa using e) with h1 | h1
  · exact hp.2.2 h1
  · omega

end Go.Proofs.Ytkdfobnkebkpfaa

/- The reference's reader: pieces. -/
namespace Go.Proofs.Ytkdfobnkebkpfaa
open Go.RowKit Go.Shelf
attribute [local go_sem] Oper.semAt_some

set_option maxRecDepth 100000 in
set_option maxHeartbeats 1500000 in
theorem rpieces_any (N : Nat) (ih : RAltsC N) (w : World) (rb : Nat) (s : ByteArray) (a : Nat) (r : List UInt8) (F : Nat) (hN : r.length < N + 1) (hF : 8 * r.length + 4 ≤ F) (hA : RAt w rb s a false) (hS : Suf s a r) (hs : s.size ≤ 4096) :
    Calls Try.prog 59 #[.pointer (some ⟨rb, 0, none⟩)] w (RA (exV w.heap.size) exJ w rb s (altP F r)) := by
  have hrb := hA.lt
  cases F with
  | zero => omega
  | succ F =>
  have hlr := hS.len
  obtain ⟨X, HX⟩ : ∃ X, Hid (piecesP F r [] = X) := ⟨_, Lib.hid rfl⟩
  rw [show altP (F + 1) r = X from by rw [← HX.out]; simp only [altP]]
  have hI : RAltI w rb s piecesP 3 N X (.slice none 0 0) (w.alloc (.cells re0 25)) :=
    ⟨[], r, a, false, none, 0, F, hS, hA.alloc _, rfl, World.ownsRow_nil _ _ _ 3, World.grownBy_alloc w _ _, Blk.new w 25 re0, by simp, .inr ⟨rfl, Lst.nil _ _, HX.out, by omega, by omega, by simp; omega⟩⟩
  clear hS hA hlr HX
  go_enter Try.func59, Try.ntmps59
  go_wp2_with (fail)
  generalize w.alloc (.cells re0 25) = W1 at hI ⊢
  go_loopw [3] (fun lv wr => RAltI w rb s piecesP 3 N X lv wr) (fun _ wr => msc rb s wr)
  case atStart => exact hI
  case round =>
    obtain ⟨es, r2, a2, bad, A, C, F2, hS2, hA2, rfl, ho2, hg2, hB2, hn2, hw⟩ := hrel
    have hm := Lib.hid (msc_eq hA2)
    have hlen2 := hS2.len
    obtain ⟨c0, c1, c2⟩ := hA2.cells
    clear hI
    have h124 : ∀ W, RAt W rb s a2 bad → Calls Try.prog 60 #[.pointer (some ⟨rb, 0, none⟩), .int .u8 124] W fun e w' => e = .returned (.bool (!bad && headIs 124 r2)) ∧ ∃ m, w' = W.drewN m := fun W hW => is_any 124 W rb s a2 bad r2 hW hS2 hs
    have h41 : ∀ W, RAt W rb s a2 bad → Calls Try.prog 60 #[.pointer (some ⟨rb, 0, none⟩), .int .u8 41] W fun e w' => e = .returned (.bool (!bad && headIs 41 r2)) ∧ ∃ m, w' = W.drewN m := fun W hW => is_any 41 W rb s a2 bad r2 hW hS2 hs
    by_cases hgo : bad = false ∧ r2.isEmpty = false ∧ headIs 124 r2 = false ∧ headIs 41 r2 = false
    · obtain ⟨rfl, hne, hk1, hk2⟩ := hgo
      obtain ⟨hL2, hX2, hF2, hm2, hl2⟩ : Lst (w.heap.size + 1) wr es A C ∧ piecesP F2 r2 (es.map (·.x)) = X ∧ 8 * r2.length + 3 ≤ F2 ∧ r2.length ≤ N ∧ es.length + r2.length ≤ 4097 := by
        rcases hw with ⟨h, _⟩ | ⟨_, h⟩
        · cases h
        · exact h
      cases F2 with
      | zero => omega
      | succ F2 =>
      have hXe : Hid (X = (pieceP F2 r2).bind fun x r1 => piecesP F2 r1 (es.map (·.x) ++ [x])) := Lib.hid (by rw [← hX2, piecesP, if_neg (by simp [hne, hk1, hk2])])
      rw [hk1] at h124
      rw [hk2] at h41
      have hpos : 0 < r2.length := by
        cases r2 with
        | nil => cases hne
        | cons c r => simp
      have hq : a2 < s.size := by omega
      have hq2 : (a2 : Int) < (s.size : Int) := by omega
      have H124 := Lib.hid h124
      have H41 := Lib.hid h41
      clear hw hX2 hne hk1 hk2 h124 h41
      simp only [Bool.not_false, Bool.true_and] at H124 H41
      go_wp2_with (fail)
      go_quiet (first | (go_at_call_of 60 (Value.int IntKind.u8 124); refine Calls.quiet_of (H124.out _ ?_); exact hA2.drewN _) | (go_at_call_of 60 (Value.int IntKind.u8 41); refine Calls.quiet_of (H41.out _ ?_); exact hA2.drewN _))
      have hAV := hA2.drewN nq
      have hgV : w.grownBy (wr.drewN nq) (some rb) := grownBy_rb hg2 (grownBy_drewN _ _ _)
      have hBV : Blk (wr.drewN nq) w.heap.size 25 [.int .i64 0, .slice none 0 0, .slice none 0 0] := hB2
      have hLV := hL2.kept (grownBy_drewN wr nq none) (fun i e => by cases e)
      clear H124 H41 c0 c1 c2 hA2 ho2 hg2 hB2 hL2
      generalize wr.drewN nq = V at hAV hgV hBV hLV ⊢
      have hVl := hBV.lt
      go_wp2_with (fail)
      refine (rpiece_any N ih V rb s a2 r2 F2 (by omega) (by omega) hAV hS2 hs).mono ?_
      rintro e w5 hans
      rcases hans.parts with ⟨x, r5, a5, val, hd, rfl, ⟨ea, rfl, rfl, hea⟩, hS5, hA5, hg5⟩ | ⟨r5, a5, val, hd, rfl, ⟨ea, rfl⟩, hS5, hA5, hg5⟩
      · have hlt5 := (less F2).2.2.2.2.1 _ _ _ hd
        have hlen5 := hS5.len
        have hX6 : Hid (X = piecesP F2 r5 (es.map (·.x) ++ [ea.x])) := Lib.hid (by rw [hXe.out, hd, Rd.bind_ok])
        have hL5 := (hLV.kept hg5 (fun i e => by cases e; omega)).kept (World.grownBy_alloc w5 (.cells ea.cells 25) none) (fun i e => by cases e)
        have hB5 := (hBV.kept hg5 (by simp; omega)).alloc (.cells ea.cells 25)
        have hg05 := grownBy_rb (grownBy_rb hgV hg5) (World.grownBy_alloc w5 (.cells ea.cells 25) (some rb))
        have hA55 := hA5.alloc (.cells ea.cells 25)
        have hC5 := Blk.new w5 25 ea.cells
        have hea5 := hea.grow (World.grownBy_alloc w5 (.cells ea.cells 25) none) (fun i e => by cases e)
        obtain ⟨a6, c6, w6, hrun6, hA6, hg6, hB6, ho6, hL6⟩ := rmore hA55 hg05 hB5 hL5.own hrb hn2 ea 23
        have hL6 := hL6 hL5 (hea5.move (fun b hp _ => ⟨⟨by omega, hp.2, fun e => by have := (hLV.lt b e).2; omega⟩, rfl⟩))
        rw [World.size_alloc] at hrun6
        have Hr6 := Lib.hid hrun6
        dsimp only [Ea.val, itemV]
        dsimp only [Ea.cells] at Hr6
        clear hd hans hrun6 hea hea5 hL5 hB5 hg05 hA55 hC5 hLV hBV hgV hAV hA5 hg5
        go_wp2_with (at_builtin; refine wpList_append_run rfl _ _ 23 23 rfl _ _ _ _ rfl rfl Hr6.out ?_)
        refine ⟨⟨es ++ [ea], r5, a5, false, a6, c6, F2, hS5, hA6, by simp, ho6, hg6, hB6, by simp; omega, .inr ⟨rfl, hL6, ?_, by omega, by omega, by simp; omega⟩⟩, ?_⟩
        · rw [hX6.out]; simp
        · rw [msc_eq hA6, hm.out]
          simp
          omega
      · have hX6 : Hid (X = .bad r5) := Lib.hid (by rw [hXe.out, hd, Rd.bind_bad])
        have ho5 := rowK (rowK hLV.own hg5 (fun i e => by cases e; omega)) (World.grownBy_alloc w5 (.cells ea.cells 25) none) (fun i e => by cases e)
        have hB5 := (hBV.kept hg5 (by simp; omega)).alloc (.cells ea.cells 25)
        have hg05 := grownBy_rb (grownBy_rb hgV hg5) (World.grownBy_alloc w5 (.cells ea.cells 25) (some rb))
        have hA55 := hA5.alloc (.cells ea.cells 25)
        obtain ⟨a6, c6, w6, hrun6, hA6, hg6, hB6, ho6, _⟩ := rmore hA55 hg05 hB5 ho5 hrb hn2 ea 23
        rw [World.size_alloc] at hrun6
        have Hr6 := Lib.hid hrun6
        dsimp only [Ea.val, itemV]
        dsimp only [Ea.cells] at Hr6
        clear hd hans hrun6 hB5 hg05 hA55 ho5 hLV hBV hgV hAV hA5 hg5
        go_wp2_with (at_builtin; refine wpList_append_run rfl _ _ 23 23 rfl _ _ _ _ rfl rfl Hr6.out ?_)
        refine ⟨⟨es ++ [ea], r5, a5, true, a6, c6, F2, hS5, hA6, by simp, ho6, hg6, hB6, by simp; omega, .inl ⟨rfl, hX6.out⟩⟩, ?_⟩
        rw [msc_eq hA6, hm.out]
        simp
    · have hend0 : RendP (w.heap.size + 1) 3 bad wr X es A C r2 := by
        rcases hw with h | ⟨rfl, h1, h2, h3, _⟩
        · exact .inl h
        · refine .inr ⟨rfl, h1, ?_⟩
          cases F2 with
          | zero => omega
          | succ F2 =>
            rw [piecesP, if_pos] at h2
            · exact h2.symm
            · simp only [Bool.or_eq_true]
              cases q1 : r2.isEmpty with
              | true => exact .inl (.inl rfl)
              | false =>
                cases q2 : headIs 124 r2 with
                | true => exact .inl (.inr rfl)
                | false =>
                  cases q3 : headIs 41 r2 with
                  | true => exact .inr rfl
                  | false => exact absurd ⟨rfl, q1, q2, q3⟩ hgo
      have hway : bad = true ∨ (bad = false ∧ ¬ (a2 < s.size) ∧ ¬ ((a2 : Int) < (s.size : Int))) ∨ (bad = false ∧ a2 < s.size ∧ (a2 : Int) < (s.size : Int) ∧ headIs 124 r2 = true) ∨ (bad = false ∧ a2 < s.size ∧ (a2 : Int) < (s.size : Int) ∧ headIs 124 r2 = false ∧ headIs 41 r2 = true) := by
        cases bad with
        | true => exact .inl rfl
        | false =>
          right
          rcases hS2.head with ⟨he, rfl⟩ | ⟨hlt, r3, hr3, _⟩
          · left; exact ⟨rfl, by omega, by omega⟩
          · right
            cases q2 : headIs 124 r2 with
            | true => left; exact ⟨rfl, hlt, by omega, rfl⟩
            | false =>
              right
              cases q3 : headIs 41 r2 with
              | true => exact ⟨rfl, hlt, by omega, rfl, rfl⟩
              | false => exact absurd ⟨rfl, by rw [hr3]; rfl, q2, q3⟩ hgo
      clear hw hgo
      have Hend0 := Lib.hid hend0
      clear hend0
      have H124 := Lib.hid h124
      have H41 := Lib.hid h41
      clear h124 h41
      rcases hway with rfl | ⟨rfl, hq, hq2⟩ | ⟨rfl, hq, hq2, hk1⟩ | ⟨rfl, hq, hq2, hk1, hk2⟩
      all_goals
        try rw [hk1] at H124
        try rw [hk2] at H41
        simp only [Bool.not_false, Bool.not_true, Bool.true_and, Bool.false_and] at H124 H41
        try clear hk1
        try clear hk2
        go_wp2_with (fail)
        go_quiet (first | (go_at_call_of 60 (Value.int IntKind.u8 124); refine Calls.quiet_of (H124.out _ ?_); exact hA2.drewN _) | (go_at_call_of 60 (Value.int IntKind.u8 41); refine Calls.quiet_of (H41.out _ ?_); exact hA2.drewN _))
        have hAV := hA2.drewN nq
        have hgV : w.grownBy (wr.drewN nq) (some rb) := grownBy_rb hg2 (grownBy_drewN _ _ _)
        have hBV : Blk (wr.drewN nq) w.heap.size 25 [.int .i64 0, .slice none 0 0, .slice none 0 0] := hB2
        have hoV := rowK ho2 (grownBy_drewN wr nq none) (fun i e => by cases e)
        have hend := Hend0.out.kept (grownBy_drewN wr nq none)
        clear H124 H41 c0 c1 c2 hA2 ho2 hg2 hB2 Hend0
        generalize wr.drewN nq = V at hAV hgV hBV hoV hend ⊢
        have hfin := rleave (kind := 3) hS2 hAV hgV hrb hend
        obtain ⟨z0, z1, z2⟩ : _ ∧ _ ∧ _ := ⟨hBV.cell 0, hBV.cell 1, hBV.cell 2⟩
        have f0 := hBV.frozen 0
        have f1 := hBV.frozen 1
        have f2 := hBV.frozen 2
        have hbl := hBV.lt
        simp only [List.getElem?_cons_zero, List.getElem?_cons_succ] at z0 z1 z2
        clear hend hgV
        have hF := fun v0 v1 v2 => blk_put3 hBV v0 v1 v2
        match es, hoV, hfin with
        | [], hoV, hfin =>
          clear hoV
          go_wp2_with (fail)
          have hF := hF (.int .i64 1) (.slice none 0 0) (.slice none 0 0)
          have g0 := hF.cell 0
          have g1 := hF.cell 1
          have g2 := hF.cell 2
          simp only [List.getElem?_cons_zero, List.getElem?_cons_succ] at g0 g1 g2
          refine bodyPost_ret (v := .agg #[.int .i64 1, .slice none 0 0, .slice none 0 0]) ?_ rfl hfin
          simp [results, Try.f59, go_sem, g0, g1, g2, itemV]
        | [e], hoV, hfin =>
          obtain ⟨g, rfl⟩ : ∃ g, A = some ⟨g, 0, none⟩ := by
            rcases hoV.2 with ⟨_, e⟩ | ⟨g, cap', cur, e, _⟩
            · cases e
            · injection e with e1 _ _; exact ⟨g, e1⟩
          have k0 := hoV.cellAt 0 (by simp)
          have k1 := hoV.cellAt 1 (by simp)
          have k2 := hoV.cellAt 2 (by simp)
          simp only [rowE, Ea.row, List.cons_append, List.nil_append, List.getElem?_cons_zero, List.getElem?_cons_succ] at k0 k1 k2
          have hgl := World.block_lt_of_cell? _ _ k0
          have hle : 1 ≤ C := by
            rcases hoV.2 with ⟨_, e⟩ | ⟨g, cap', cur, e, _, _, h, _⟩
            · cases e
            · injection e with _ _ e; simp at h; omega
          clear hoV
          simp only [List.length_singleton]
          go_wp2_with (fail)
          have hF := hF (.int .i64 e.x.h.k) (.slice e.sa e.x.h.set.length e.sc) (.slice e.a e.x.k.len e.c)
          have g0 := hF.cell 0
          have g1 := hF.cell 1
          have g2 := hF.cell 2
          simp only [List.getElem?_cons_zero, List.getElem?_cons_succ] at g0 g1 g2
          refine bodyPost_ret (v := e.val) ?_ rfl hfin
          simp [results, Try.f59, go_sem, g0, g1, g2, itemV]
        | e1 :: e2 :: er, hoV, hfin =>
          dsimp only [joinE, Ea.val, itemV] at hfin
          rw [foE_len] at hfin
          have hn0 : (((e1 :: e2 :: er).length : Int) == 0) = false := by rw [beq_eq_false_iff_ne]; simp; omega
          have hn1 : (((e1 :: e2 :: er).length : Int) == 1) = false := by rw [beq_eq_false_iff_ne]; simp; omega
          generalize (e1 :: e2 :: er).length = n at hfin hn0 hn1 ⊢
          clear hoV
          go_wp2_with (fail)
          have hF := hF (.int .i64 3) (.slice none 0 0) (.slice A n C)
          have g0 := hF.cell 0
          have g1 := hF.cell 1
          have g2 := hF.cell 2
          simp only [List.getElem?_cons_zero, List.getElem?_cons_succ] at g0 g1 g2
          refine bodyPost_ret (v := .agg #[.int .i64 3, .slice none 0 0, .slice A n C]) ?_ rfl hfin
          simp [results, Try.f59, go_sem, g0, g1, g2, itemV]
end Go.Proofs.Ytkdfobnkebkpfaa

/- The reference's reader: alternatives. -/
namespace Go.Proofs.Ytkdfobnkebkpfaa
open Go.RowKit Go.Shelf
attribute [local go_sem] Oper.semAt_some

set_option maxRecDepth 100000 in
set_option maxHeartbeats 1500000 in
theorem ralternatives_step (N : Nat) (ih : RAltsC N) : RAltsC (N + 1) := by
  intro w rb s a r F hN hF hA hS hs
  have hrb := hA.lt
  cases F with
  | zero => omega
  | succ F =>
  have hlr := hS.len
  obtain ⟨X, HX⟩ : ∃ X, Hid (altsP (F + 1) r = X) := ⟨_, Lib.hid rfl⟩
  have hE : Hid (X = (altP F r).bind fun x r1 => moreP F r1 [x]) := Lib.hid (by rw [← HX.out]; simp only [altsP])
  rw [HX.out]
  have hB0 := Blk.new w 25 re0
  have hg0 := World.grownBy_alloc w (.cells re0 25) (some rb)
  have hA0 := hA.alloc (.cells re0 25)
  have hal := rpieces_any N ih _ rb s a r F hN (by omega) hA0 hS hs
  have hsz0 : (w.alloc (.cells re0 25)).heap.size = w.heap.size + 1 := by simp
  rw [hsz0] at hal
  clear hS hA hsz0
  go_enter Try.func42, Try.ntmps42
  go_wp2_with (fail)
  refine hal.mono ?_
  rintro e w1 hans
  have hI : ∃ ea : Ea, e = .returned ea.val ∧ w.heap.size < w1.heap.size ∧ ∃ (es : List Ea), es = [ea] ∧ RAltI w rb s moreP 5 N X (.slice (some ⟨w1.heap.size, 0, none⟩) es.length 1) (w1.alloc (.cells ea.cells 25)) := by
    rcases hans.parts with ⟨x, r1, a1, val, hd, rfl, ⟨ea, rfl, rfl, hea⟩, hS1, hA1, hg1⟩ | ⟨r1, a1, val, hd, rfl, ⟨ea, rfl⟩, hS1, hA1, hg1⟩
    · have hle1 := (less F).2.2.1 _ _ _ hd
      have hlen1 := hS1.len
      have hB1 := hB0.kept hg1 (by simp; omega)
      have hz1 := hB1.lt
      have hl1 : Lst (w.heap.size + 1) (w1.alloc (.cells ea.cells 25)) [ea] (some ⟨w1.heap.size, 0, none⟩) 1 := by
        refine ⟨World.ownsRow_lit (base := w.heap.size + 1) (e := 25) (size := 3) w1 ea.cells 1 hz1 (by unfold maxLen; omega) rfl, fun e he => ?_⟩
        rw [List.mem_singleton.1 he]
        exact hea.move (fun b hp hlt => ⟨⟨hp.1, by have h2 := hp.2; simp; omega, fun e => by have h2 := hp.2; cases e; exact Nat.lt_irrefl _ h2⟩, (World.grownBy_alloc w1 _ none).block b hlt (by simp)⟩)
      exact ⟨ea, rfl, hz1, [ea], rfl, [ea], r1, a1, false, some ⟨w1.heap.size, 0, none⟩, 1, F, hS1, hA1.alloc _, rfl, hl1.own, grownBy_rb (grownBy_rb hg0 hg1) (World.grownBy_alloc w1 _ _), hB1.alloc _, by simp, .inr ⟨rfl, hl1, by rw [hE.out, hd, Rd.bind_ok]; rfl, by omega, by omega, by simp; omega⟩⟩
    · have hB1 := hB0.kept hg1 (by simp; omega)
      have hz1 := hB1.lt
      exact ⟨ea, rfl, hz1, [ea], rfl, [ea], r1, a1, true, some ⟨w1.heap.size, 0, none⟩, 1, F, hS1, hA1.alloc _, rfl, World.ownsRow_lit (base := w.heap.size + 1) (e := 25) (size := 3) w1 ea.cells 1 hz1 (by unfold maxLen; omega) rfl, grownBy_rb (grownBy_rb hg0 hg1) (World.grownBy_alloc w1 _ _), hB1.alloc _, by simp, .inl ⟨rfl, by rw [hE.out, hd, Rd.bind_bad]⟩⟩
  obtain ⟨ea, rfl, hz1, es0, hes0, hI⟩ := hI
  have hn0 : es0.length = 1 := by rw [hes0]; rfl
  rw [hn0] at hI
  clear hans hal hB0 hg0 hA0 hn0 hes0 es0
  dsimp only [Ea.val, itemV]
  dsimp only [Ea.cells] at hI
  go_wp2_with (fail)
  generalize w1.alloc (.cells #[.int .i64 ea.x.h.k, .slice ea.sa ea.x.h.set.length ea.sc, .slice ea.a ea.x.k.len ea.c] 25) = W1 at hI ⊢
  clear hz1
  go_loopw [3] (fun lv wr => RAltI w rb s moreP 5 N X lv wr ∧ ∃ A n C, lv = .slice A n C ∧ 0 < n) (fun _ wr => msc rb s wr)
  case atStart => exact ⟨hI, _, _, _, rfl, by omega⟩
  case round =>
    obtain ⟨⟨es, r2, a2, bad, A, C, F2, hS2, hA2, rfl, ho2, hg2, hB2, hn2, hw⟩, A', n', C', hlv, hpos0⟩ := hrel
    have hpos : 0 < es.length := by injection hlv with _ e _; omega
    clear hlv hpos0
    have hm := Lib.hid (msc_eq hA2)
    have hlen2 := hS2.len
    clear hI
    have his := is_k 124 wr rb s a2 bad r2 hA2 hS2 hs
    by_cases hgo : bad = false ∧ headIs 124 r2 = true
    · obtain ⟨rfl, hk1⟩ := hgo
      obtain ⟨hL2, hX2, hF2, hm2, hl2⟩ : Lst (w.heap.size + 1) wr es A C ∧ moreP F2 r2 (es.map (·.x)) = X ∧ 8 * r2.length + 5 ≤ F2 ∧ r2.length ≤ N ∧ es.length + r2.length ≤ 4097 := by
        rcases hw with ⟨h, _⟩ | ⟨_, h⟩
        · cases h
        · exact h
      cases F2 with
      | zero => omega
      | succ F2 =>
      have hXe : Hid (X = (altP F2 r2.tail).bind fun x r1 => moreP F2 r1 (es.map (·.x) ++ [x])) := Lib.hid (by rw [← hX2, moreP, if_pos hk1])
      rw [hk1] at his
      obtain ⟨hlt3, _, hS3⟩ := headIs_lt hS2 hk1
      have htl := tail_lt hk1
      clear hw hX2 hk1
      go_wp2_with (fail)
      refine his.mono ?_
      rintro e v3 ⟨rfl, hA3, hg3⟩
      have hg03 := grownBy_rb hg2 (grown_none hg3)
      have hB3 := hB2.kept hg3 (by simp)
      have hL3 := hL2.kept hg3 (fun i e => by cases e)
      clear his hA2 ho2 hg2 hB2 hL2 hg3
      obtain ⟨c0, c1, c2⟩ := hA3.cells
      have q1 := hA3.frozen 1
      have hrl := hA3.lt
      go_wp2_with (fail)
      have hAV := hA3.set (a2 + 1) (.int .i64 ((a2 : Int) + 1)) (by simp)
      have hgV := grownBy_rb hg03 (grownBy_set v3 rb 1 (.int .i64 ((a2 : Int) + 1)))
      have hBV := hB3.setOther (b' := rb) (j := 1) (by omega) (.int .i64 ((a2 : Int) + 1))
      have hLV := hL3.kept (grownBy_set v3 rb 1 (.int .i64 ((a2 : Int) + 1))) (fun i e => by cases e; omega)
      clear c0 c1 c2 q1 hrl hA3 hg03 hB3 hL3
      generalize v3.setCell ⟨rb, 1, none⟩ (.int .i64 ((a2 : Int) + 1)) = V at hAV hgV hBV hLV ⊢
      have hVl := hBV.lt
      refine (rpieces_any N ih V rb s (a2 + 1) r2.tail F2 (by omega) (by omega) hAV hS3 hs).mono ?_
      rintro e w5 hans
      rcases hans.parts with ⟨x, r5, a5, val, hd, rfl, ⟨ea, rfl, rfl, hea⟩, hS5, hA5, hg5⟩ | ⟨r5, a5, val, hd, rfl, ⟨ea, rfl⟩, hS5, hA5, hg5⟩
      · have hlt5 := (less F2).2.2.1 _ _ _ hd
        have hlen5 := hS5.len
        have hX6 : Hid (X = moreP F2 r5 (es.map (·.x) ++ [ea.x])) := Lib.hid (by rw [hXe.out, hd, Rd.bind_ok])
        have hL5 := (hLV.kept hg5 (fun i e => by cases e; omega)).kept (World.grownBy_alloc w5 (.cells ea.cells 25) none) (fun i e => by cases e)
        have hB5 := (hBV.kept hg5 (by simp; omega)).alloc (.cells ea.cells 25)
        have hg05 := grownBy_rb (grownBy_rb hgV hg5) (World.grownBy_alloc w5 (.cells ea.cells 25) (some rb))
        have hA55 := hA5.alloc (.cells ea.cells 25)
        have hea5 := hea.grow (World.grownBy_alloc w5 (.cells ea.cells 25) none) (fun i e => by cases e)
        obtain ⟨a6, c6, w6, hrun6, hA6, hg6, hB6, ho6, hL6⟩ := rmore hA55 hg05 hB5 hL5.own hrb hn2 ea 23
        have hL6 := hL6 hL5 (hea5.move (fun b hp _ => ⟨⟨by omega, hp.2, fun e => by have := (hLV.lt b e).2; omega⟩, rfl⟩))
        rw [World.size_alloc] at hrun6
        have Hr6 := Lib.hid hrun6
        dsimp only [Ea.val, itemV]
        dsimp only [Ea.cells] at Hr6
        clear hd hans hrun6 hea hea5 hL5 hB5 hg05 hA55 hLV hBV hgV hAV hA5 hg5
        go_wp2_with (at_builtin; refine wpList_append_run rfl _ _ 23 23 rfl _ _ _ _ rfl rfl Hr6.out ?_)
        refine ⟨⟨⟨es ++ [ea], r5, a5, false, a6, c6, F2, hS5, hA6, by simp, ho6, hg6, hB6, by simp; omega, .inr ⟨rfl, hL6, ?_, by omega, by omega, by simp; omega⟩⟩, _, _, _, rfl, by omega⟩, ?_⟩
        · rw [hX6.out]; simp
        · rw [msc_eq hA6, hm.out]
          simp
          omega
      · have hX6 : Hid (X = .bad r5) := Lib.hid (by rw [hXe.out, hd, Rd.bind_bad])
        have ho5 := rowK (rowK hLV.own hg5 (fun i e => by cases e; omega)) (World.grownBy_alloc w5 (.cells ea.cells 25) none) (fun i e => by cases e)
        have hB5 := (hBV.kept hg5 (by simp; omega)).alloc (.cells ea.cells 25)
        have hg05 := grownBy_rb (grownBy_rb hgV hg5) (World.grownBy_alloc w5 (.cells ea.cells 25) (some rb))
        have hA55 := hA5.alloc (.cells ea.cells 25)
        obtain ⟨a6, c6, w6, hrun6, hA6, hg6, hB6, ho6, _⟩ := rmore hA55 hg05 hB5 ho5 hrb hn2 ea 23
        rw [World.size_alloc] at hrun6
        have Hr6 := Lib.hid hrun6
        dsimp only [Ea.val, itemV]
        dsimp only [Ea.cells] at Hr6
        clear hd hans hrun6 hB5 hg05 hA55 ho5 hLV hBV hgV hAV hA5 hg5
        go_wp2_with (at_builtin; refine wpList_append_run rfl _ _ 23 23 rfl _ _ _ _ rfl rfl Hr6.out ?_)
        refine ⟨⟨⟨es ++ [ea], r5, a5, true, a6, c6, F2, hS5, hA6, by simp, ho6, hg6, hB6, by simp; omega, .inl ⟨rfl, hX6.out⟩⟩, _, _, _, rfl, by omega⟩, ?_⟩
        rw [msc_eq hA6, hm.out]
        simp
    · have hend0 : RendP (w.heap.size + 1) 4 bad wr X es A C r2 := by
        rcases hw with h | ⟨rfl, h1, h2, h3, _⟩
        · exact .inl h
        · refine .inr ⟨rfl, h1, ?_⟩
          cases F2 with
          | zero => omega
          | succ F2 =>
            rw [moreP, if_neg (fun e => hgo ⟨rfl, e⟩)] at h2
            exact h2.symm
      have hno : (!bad && headIs 124 r2) = false := by
        cases bad with
        | true => rfl
        | false => simpa using hgo
      rw [hno] at his
      clear hw hgo hno
      have Hend0 := Lib.hid hend0
      clear hend0
      go_wp2_with (fail)
      refine his.mono ?_
      rintro e V ⟨rfl, hAV, hg3⟩
      have hgV := grownBy_rb hg2 (grown_none hg3)
      have hBV := hB2.kept hg3 (by simp)
      have hoV := rowK ho2 hg3 (fun i e => by cases e)
      have hend := Hend0.out.kept hg3
      clear his hA2 ho2 hg2 hB2 hg3 Hend0
      have hfin := rleave (kind := 4) hS2 hAV hgV hrb hend
      obtain ⟨z0, z1, z2⟩ : _ ∧ _ ∧ _ := ⟨hBV.cell 0, hBV.cell 1, hBV.cell 2⟩
      have f0 := hBV.frozen 0
      have f1 := hBV.frozen 1
      have f2 := hBV.frozen 2
      have hbl := hBV.lt
      simp only [List.getElem?_cons_zero, List.getElem?_cons_succ] at z0 z1 z2
      clear hend hgV
      have hF := fun v0 v1 v2 => blk_put3 hBV v0 v1 v2
      match es, hoV, hfin with
      | [], hoV, hfin =>
        exact absurd hpos (Nat.lt_irrefl 0)
      | [e], hoV, hfin =>
        obtain ⟨g, rfl⟩ : ∃ g, A = some ⟨g, 0, none⟩ := by
          rcases hoV.2 with ⟨_, e⟩ | ⟨g, cap', cur, e, _⟩
          · cases e
          · injection e with e1 _ _; exact ⟨g, e1⟩
        have k0 := hoV.cellAt 0 (by simp)
        have k1 := hoV.cellAt 1 (by simp)
        have k2 := hoV.cellAt 2 (by simp)
        simp only [rowE, Ea.row, List.cons_append, List.nil_append, List.getElem?_cons_zero, List.getElem?_cons_succ] at k0 k1 k2
        have hgl := World.block_lt_of_cell? _ _ k0
        have hle : 1 ≤ C := by
          rcases hoV.2 with ⟨_, e⟩ | ⟨g, cap', cur, e, _, _, h, _⟩
          · cases e
          · injection e with _ _ e; simp at h; omega
        clear hoV
        simp only [List.length_singleton]
        go_wp2_with (fail)
        have hF := hF (.int .i64 e.x.h.k) (.slice e.sa e.x.h.set.length e.sc) (.slice e.a e.x.k.len e.c)
        have g0 := hF.cell 0
        have g1 := hF.cell 1
        have g2 := hF.cell 2
        simp only [List.getElem?_cons_zero, List.getElem?_cons_succ] at g0 g1 g2
        refine bodyPost_ret (v := e.val) ?_ rfl hfin
        simp [results, Try.f42, go_sem, g0, g1, g2, itemV]
      | e1 :: e2 :: er, hoV, hfin =>
        dsimp only [joinE, Ea.val, itemV] at hfin
        rw [foE_len] at hfin
        have hn0 : (((e1 :: e2 :: er).length : Int) == 0) = false := by rw [beq_eq_false_iff_ne]; simp; omega
        have hn1 : (((e1 :: e2 :: er).length : Int) == 1) = false := by rw [beq_eq_false_iff_ne]; simp; omega
        generalize (e1 :: e2 :: er).length = n at hfin hn0 hn1 ⊢
        clear hoV
        go_wp2_with (fail)
        have hF := hF (.int .i64 4) (.slice none 0 0) (.slice A n C)
        have g0 := hF.cell 0
        have g1 := hF.cell 1
        have g2 := hF.cell 2
        simp only [List.getElem?_cons_zero, List.getElem?_cons_succ] at g0 g1 g2
        refine bodyPost_ret (v := .agg #[.int .i64 4, .slice none 0 0, .slice A n C]) ?_ rfl hfin
        simp [results, Try.f42, go_sem, g0, g1, g2, itemV]
theorem ralternatives_any : ∀ N, RAltsC N := by
  intro N
  induction N with
  | zero => intro w rb s a r F h; exact absurd h (Nat.not_lt_zero _)
  | succ N ih => exact ralternatives_step N ih
end Go.Proofs.Ytkdfobnkebkpfaa

/- The reference's Parse. -/
namespace Go.Proofs.Ytkdfobnkebkpfaa
open Go.RowKit Go.Shelf
attribute [local go_sem] Oper.semAt_some

theorem blk_drew {w : World} {b : Nat} {e : TypeId} {cs : List Value} (h : Blk w b e cs) : Blk w.drew b e cs := h
theorem below_drew {B : Nat} {a w : World} (h : Below B a w) : Below B a w.drew := ⟨h.os, h.tape, h.output, h.size, h.block⟩
set_option maxRecDepth 100000 in
set_option maxHeartbeats 1000000 in
theorem rparse_long (s : ByteArray) (w : World) (hs : 4096 < s.size) (hm : s.size ≤ 9223372036854775807) : Calls Try.prog 22 #[.string s] w (ParA s.data.toList w) := by
  have hP : Hid (parseP s.data.toList = (zeroX, 0, 2)) := Lib.hid (by unfold parseP; rw [if_pos (by rw [dlen]; exact hs)])
  have hgt : (4096 : Int) < (s.size : Int) := by omega
  have hbel : Below w.heap.size w (w.alloc (.cells re0 25)) := (Below.refl _ w).alloc (Nat.le_refl _) _
  have hF := Blk.new w 25 re0
  have g0 := hF.cell 0
  have g1 := hF.cell 1
  have g2 := hF.cell 2
  simp only [re0, List.getElem?_cons_zero, List.getElem?_cons_succ] at g0 g1 g2
  go_enter Try.func22, Try.ntmps22
  go_wp2_with (fail)
  refine bodyPost_ret (v := .tuple #[.agg #[.int .i64 0, .slice none 0 0, .slice none 0 0], .int .i64 ((0 : Nat) : Int), .int .i64 2]) ?_ rfl (parA_zero hP.out hbel)
  simp [results, Try.f22, go_sem, g0, g1, g2]

set_option maxRecDepth 100000 in
set_option maxHeartbeats 1000000 in
theorem rparse_short (s : ByteArray) (w : World) (hs : s.size ≤ 4096) : Calls Try.prog 22 #[.string s] w (ParA s.data.toList w) := by
  have hle : ¬ (4096 : Int) < (s.size : Int) := by omega
  have hR0 := (Blk.new w 25 re0).alloc (.cells #[.string s, .int .i64 0, .bool false] 64)
  have hA0 := Blk.new (w.alloc (.cells re0 25)) 64 #[.string s, .int .i64 0, .bool false]
  have hb0 : Below w.heap.size w ((w.alloc (.cells re0 25)).alloc (.cells #[.string s, .int .i64 0, .bool false] 64)) := ((Below.refl _ w).alloc (Nat.le_refl _) _).alloc (by simp) _
  simp only [World.size_alloc] at hA0
  have hz0 : ((w.alloc (.cells re0 25)).alloc (.cells #[.string s, .int .i64 0, .bool false] 64)).heap.size = w.heap.size + 2 := by simp
  have hal := ralternatives_any (s.size + 1) ((w.alloc (.cells re0 25)).alloc (.cells #[.string s, .int .i64 0, .bool false] 64)) (w.heap.size + 1) s 0 s.data.toList (8 * s.data.toList.length + 8) (by rw [dlen]; omega) (Nat.le_refl _) hA0 ⟨by omega, rfl⟩ hs
  go_enter Try.func22, Try.ntmps22
  go_wp2_with (fail)
  generalize World.alloc _ _ = W4 at hR0 hA0 hb0 hz0 hal ⊢
  refine hal.mono ?_
  rintro e w5 hans
  have hz4 : W4.heap.size = w.heap.size + 2 := hz0
  rcases hans.parts with ⟨x, r5, a5, val, hd, rfl, ⟨ea, rfl, rfl, hea⟩, hS5, hA5, hg5⟩ | ⟨r5, a5, val, hd, rfl, ⟨ea, rfl⟩, hS5, hA5, hg5⟩
  · rw [hz4] at hea
    have hck := ckE_read hd
    have hlen5 := hS5.len
    have hsz := (sized _).1 _ _ _ hd
    rw [dlen] at hsz
    have hR5 := (hR0.kept hg5 (by simp)).alloc (.cells ea.cells 25)
    have hb5 := (hb0.grown hg5 hb0.size (fun i e => by cases e; omega)).alloc (by have := hR0.kept hg5 (by simp); have := this.lt; omega) (.cells ea.cells 25)
    have hC5 := Blk.new w5 25 ea.cells
    have hA55 := RAt.alloc hA5 (.cells ea.cells 25)
    have hea5 := hea.grow (World.grownBy_alloc w5 (.cells ea.cells 25) none) (fun i e => by cases e)
    have hl5 := (hR0.kept hg5 (by simp)).lt
    have hl6 := hA5.lt
    have HD := Lib.hid hd
    clear hd hans hal hR0 hA0 hb0 hz0 hea hA5 hg5
    dsimp only [Ea.val, itemV]
    dsimp only [Ea.cells] at hR5 hb5 hC5 hA55 hea5
    have z0 := hR5.cell 0
    have z1 := hR5.cell 1
    have z2 := hR5.cell 2
    have f0 := hR5.frozen 0
    have f1 := hR5.frozen 1
    have f2 := hR5.frozen 2
    obtain ⟨d0, d1, d2⟩ := hA55.cells
    have b0 := hC5.cell 0
    have b1 := hC5.cell 1
    have b2 := hC5.cell 2
    simp only [re0, List.getElem?_cons_zero, List.getElem?_cons_succ] at z0 z1 z2 b0 b1 b2
    have hl0 := hR5.lt
    have hlc := hC5.lt
    by_cases hend : a5 < s.size
    · have hP : Hid (parseP s.data.toList = (zeroX, a5, 20)) := Lib.hid (by
        unfold parseP; rw [if_neg (by rw [dlen]; omega), HD.out]; simp only []; rw [if_pos (by omega), dlen]; congr 2; omega)
      have hI : (a5 : Int) < (s.size : Int) := by omega
      have hf6 := rfail_any _ (w.heap.size + 1) s a5 false hA55
      go_wp2_with (fail)
      refine hf6.mono ?_
      rintro e w6 ⟨rfl, hA6, hg6⟩
      have hR6 := hR5.kept hg6 (by simp)
      have hb6 := hb5.grown hg6 hb5.size (fun i e => by cases e; omega)
      have y0 := hR6.cell 0
      have y1 := hR6.cell 1
      have y2 := hR6.cell 2
      have k0 := hR6.frozen 0
      have k1 := hR6.frozen 1
      have k2 := hR6.frozen 2
      simp only [re0, List.getElem?_cons_zero, List.getElem?_cons_succ] at y0 y1 y2
      obtain ⟨u0, u1, u2⟩ := hA6.cells
      have hm0 := hR6.lt
      have hm1 := hA6.lt
      clear hR5 hb5 hC5 hA55 hea5 z0 z1 z2 f0 f1 f2 d0 d1 d2 b0 b1 b2 hl0 hlc hl5 hl6 hg6 hf6
      go_wp2_with (fail)
      have hF := blk_put3 hR6 (.int .i64 0) (.slice none 0 0) (.slice none 0 0)
      have hbF := below_put3 hb6 (Nat.le_refl w.heap.size) (.int .i64 0) (.slice none 0 0) (.slice none 0 0)
      go_region
      have hF := blk_drew hF
      have hbF := below_drew hbF
      generalize World.drew _ = w7 at hF hbF ⊢
      have g0 := hF.cell 0
      have g1 := hF.cell 1
      have g2 := hF.cell 2
      simp only [List.getElem?_cons_zero, List.getElem?_cons_succ] at g0 g1 g2
      go_wp2_with (fail)
      refine bodyPost_ret (v := .tuple #[.agg #[.int .i64 0, .slice none 0 0, .slice none 0 0], .int .i64 (a5 : Int), .int .i64 20]) ?_ rfl (parA_zero hP.out hbF)
      simp [results, Try.f22, go_sem, g0, g1, g2]
    · have hI : ¬ (a5 : Int) < (s.size : Int) := by omega
      have hPP : Hid (parseP s.data.toList = if ea.x.k.deep + 1 ≤ 40 then (ea.x, 0, 0) else (zeroX, 0, 3)) := Lib.hid (by
        unfold parseP
        rw [if_neg (by rw [dlen]; omega), HD.out]
        simp only []
        rw [if_neg (by omega), hck]
        by_cases h40 : ea.x.k.deep + 1 ≤ 40
        · rw [if_pos h40, if_pos h40]; rfl
        · rw [if_neg h40, if_neg h40]; rfl)
      have hdp := deep_any (ea.x.k.size + 1) ea.x.h ea.x.k ea.sa ea.sc ea.a ea.c _ (Nat.lt_succ_self _) (by omega) hea5.items.items
      dsimp only [itemV] at hdp
      obtain ⟨D, hD⟩ : ∃ D, Hid (ea.x.k.deep = D) := ⟨_, Lib.hid rfl⟩
      rw [hD.out] at hdp hPP
      clear hck hend
      go_wp2_with (fail)
      refine hdp.mono ?_
      rintro e w6 ⟨rfl, hb6⟩
      have hR6 := hR5.below hb6 hR5.lt
      have hC6 := hC5.below hb6 hC5.lt
      have hb7 := hb5.trans (hb6.mono hb5.size)
      have hea6 := hea5.grow (below_grownBy hb6 none) (fun i e => by cases e)
      clear hR5 hb5 hC5 hA55 hea5 z0 z1 z2 f0 f1 f2 d0 d1 d2 b0 b1 b2 hl0 hlc hl5 hl6 hb6 hdp
      have z0 := hR6.cell 0
      have z1 := hR6.cell 1
      have z2 := hR6.cell 2
      have f0 := hR6.frozen 0
      have f1 := hR6.frozen 1
      have f2 := hR6.frozen 2
      have b0 := hC6.cell 0
      have b1 := hC6.cell 1
      have b2 := hC6.cell 2
      simp only [re0, List.getElem?_cons_zero, List.getElem?_cons_succ] at z0 z1 z2 b0 b1 b2
      have hl0 := hR6.lt
      have hlc := hC6.lt
      by_cases h40 : D + 1 ≤ 40
      · have hI2 : ¬ (40 : Int) < (D : Int) + 1 := by omega
        have hP : Hid (parseP s.data.toList = (ea.x, 0, 0)) := Lib.hid (by rw [hPP.out, if_pos h40])
        clear h40 hPP
        go_wp2_with (fail)
        have hF := blk_put3 hR6 (.int .i64 ea.x.h.k) (.slice ea.sa ea.x.h.set.length ea.sc) (.slice ea.a ea.x.k.len ea.c)
        have g0 := hF.cell 0
        have g1 := hF.cell 1
        have g2 := hF.cell 2
        simp only [List.getElem?_cons_zero, List.getElem?_cons_succ] at g0 g1 g2
        refine bodyPost_ret (v := .tuple #[ea.val, .int .i64 ((0 : Nat) : Int), .int .i64 0]) ?_ rfl ⟨ea, by rw [hP.out], by rw [hP.out], (hea6.grow (put3_grow w6 w.heap.size _ _ _) (fun i e => by cases e; omega)).weak (by omega), below_put3 hb7 (Nat.le_refl _) _ _ _⟩
        simp [results, Try.f22, go_sem, g0, g1, g2]
      · have hI2 : (40 : Int) < (D : Int) + 1 := by omega
        have hP : Hid (parseP s.data.toList = (zeroX, 0, 3)) := Lib.hid (by rw [hPP.out, if_neg h40])
        clear h40 hPP
        go_wp2_with (fail)
        have hF := blk_put3 hR6 (.int .i64 0) (.slice none 0 0) (.slice none 0 0)
        have g0 := hF.cell 0
        have g1 := hF.cell 1
        have g2 := hF.cell 2
        simp only [List.getElem?_cons_zero, List.getElem?_cons_succ] at g0 g1 g2
        refine bodyPost_ret (v := .tuple #[.agg #[.int .i64 0, .slice none 0 0, .slice none 0 0], .int .i64 ((0 : Nat) : Int), .int .i64 3]) ?_ rfl (parA_zero hP.out (below_put3 hb7 (Nat.le_refl _) _ _ _))
        simp [results, Try.f22, go_sem, g0, g1, g2]
  · have hlen5 := hS5.len
    have hP : Hid (parseP s.data.toList = (zeroX, a5, 20)) := Lib.hid (by
      unfold parseP; rw [if_neg (by rw [dlen]; omega), hd]; simp only [dlen, Prod.mk.injEq, true_and, and_true]; omega)
    have hR6 := (hR0.kept hg5 (by simp)).alloc (.cells ea.cells 25)
    have hb6 := (hb0.grown hg5 hb0.size (fun i e => by cases e; omega)).alloc (by have := hR0.kept hg5 (by simp); have := this.lt; omega) (.cells ea.cells 25)
    have hA6 := RAt.alloc hA5 (.cells ea.cells 25)
    have hl5 := (hR0.kept hg5 (by simp)).lt
    have hl6 := hA5.lt
    clear hd hans hal hR0 hA0 hb0 hz0 hA5 hg5
    dsimp only [Ea.val, itemV]
    dsimp only [Ea.cells] at hR6 hb6 hA6
    obtain ⟨d0, d1, d2⟩ := hA6.cells
    go_wp2_with (fail)
    generalize World.alloc _ _ = w6 at hR6 hb6 hA6 ⊢
    clear d0 d1 d2
    have y0 := hR6.cell 0
    have y1 := hR6.cell 1
    have y2 := hR6.cell 2
    have k0 := hR6.frozen 0
    have k1 := hR6.frozen 1
    have k2 := hR6.frozen 2
    simp only [re0, List.getElem?_cons_zero, List.getElem?_cons_succ] at y0 y1 y2
    obtain ⟨u0, u1, u2⟩ := hA6.cells
    have hm0 := hR6.lt
    have hm1 := hA6.lt
    go_wp2_with (fail)
    have hF := blk_put3 hR6 (.int .i64 0) (.slice none 0 0) (.slice none 0 0)
    have hbF := below_put3 hb6 (Nat.le_refl w.heap.size) (.int .i64 0) (.slice none 0 0) (.slice none 0 0)
    go_region
    have hF := blk_drew hF
    have hbF := below_drew hbF
    generalize World.drew _ = w7 at hF hbF ⊢
    have g0 := hF.cell 0
    have g1 := hF.cell 1
    have g2 := hF.cell 2
    simp only [List.getElem?_cons_zero, List.getElem?_cons_succ] at g0 g1 g2
    go_wp2_with (fail)
    refine bodyPost_ret (v := .tuple #[.agg #[.int .i64 0, .slice none 0 0, .slice none 0 0], .int .i64 (a5 : Int), .int .i64 20]) ?_ rfl (parA_zero hP.out hbF)
    simp [results, Try.f22, go_sem, g0, g1, g2]

theorem rparse_any (s : ByteArray) (w : World) (hm : s.size ≤ 9223372036854775807) : Calls Try.prog 22 #[.string s] w (ParA s.data.toList w) := by
  by_cases h : 4096 < s.size
  · exact rparse_long s w h hm
  · exact rparse_short s w (by omega)
end Go.Proofs.Ytkdfobnkebkpfaa
