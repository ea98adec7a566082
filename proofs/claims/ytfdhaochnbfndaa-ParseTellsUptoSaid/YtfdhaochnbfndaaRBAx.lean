/- Texts joined: Fm. -/
import Derived.Test.YtfdhaochnbfndaaRBAw
import Derived.Test.YtfdhaochnbfndaaRBAl
import Derived.Deep.CutRange
set_option linter.unusedVariables false
set_option linter.unusedSimpArgs false
namespace Go.Proofs.Ytfdhaochnbfndaa
open Go.RowKit Go.Maps
attribute [local go_sem] Oper.semAt_some
theorem KeB.step {bad bad' : Nat → Prop} {w U W : World} (h : KeB bad w U) (k : KeB bad' U W) (hb : ∀ b, bad' b → bad b ∨ w.heap.size ≤ b) : KeB bad w W :=
 ⟨k.os.trans h.os, k.tape.trans h.tape, k.output.trans h.output, Nat.le_trans h.size k.size, fun i hi hn => (k.block i (Nat.lt_of_lt_of_le hi h.size) (fun e => by rcases hb i e with e | e; exact hn e; omega)).trans (h.block i hi hn)⟩
theorem FrU.box {W : World} {P : Nat → Prop} {nb : Nat} : ∀ {fs : List FrM} {v : List Value}, FrU W P nb v fs → v.length = 4 → ∃ v0 v1 v2 v3, Blk W nb 51 [v0, v1, v2, v3]
 | [], [a, b, c, e], h, _ => ⟨a, b, c, e, h⟩
 | _ :: _, _, h, _ => FrU.box h.2 rfl
/-- What putAll answers. -/
def PalQ (w : World) (bp nb : Nat) (c : Int → Int → Value → List Value) (r : PsR Tre) (e : Ending) (W : World) : Prop :=
 KeB (fun b => b = bp ∨ b = nb) w W ∧ match r with
 | .bad b x => e = refuP (b : Int) x ∧ (∃ v0 v1 v2 v3, Blk W nb 51 [v0, v1, v2, v3])
 | .ok t b q => e = .returned (.tuple #[]) ∧ ∃ oa oc ga gc, PaE bp nb w.heap.size c r W t b q oa oc ga gc
/-- What region 7 leaves: the kid's cells are made, and counted. -/
def Rm7 (V W : World) (b1 o1 xg ln xc : Nat) (cs : List Value) (k : Int) : Prop := KeB (fun b => b = b1 ∨ b = xg) V W ∧ W.heap[b1]? = (V.setCell ⟨b1, o1 + 3, none⟩ (.slice (some ⟨xg, 0, none⟩) (ln + 1) xc)).heap[b1]? ∧ W.ownsRow 0 51 4 (.slice (some ⟨xg, 0, none⟩) (ln + 1) xc) (ln + 1) (cs ++ [.int .i64 k, .int .i64 0, .int .i64 0, .slice none 0 0])
theorem own_set4 {W : World} {g n c L : Nat} {cs : List Value} {z0 z1 z2 z3 : Value} (h : W.ownsRow 0 51 4 (.slice (some ⟨g, 0, none⟩) n c) n (cs ++ [z0, z1, z2, z3])) (hl : cs.length = L) (v0 v1 v2 v3 : Value) : ((((W.setCell ⟨g, L, none⟩ v0).setCell ⟨g, L + 1, none⟩ v1).setCell ⟨g, L + 2, none⟩ v2).setCell ⟨g, L + 3, none⟩ v3).ownsRow 0 51 4 (.slice (some ⟨g, 0, none⟩) n c) n (cs ++ [v0, v1, v2, v3]) := by
 subst hl
 have h4 := own_setC (own_setC (own_setC (own_setC h cs.length v0) (cs.length + 1) v1) (cs.length + 2) v2) (cs.length + 3) v3
 have e : ((((cs ++ [z0, z1, z2, z3]).set cs.length v0).set (cs.length + 1) v1).set (cs.length + 2) v2).set (cs.length + 3) v3 = cs ++ [v0, v1, v2, v3] := by
  rw [List.set_append_right _ _ (Nat.le_refl _), List.set_append_right _ _ (by omega), List.set_append_right _ _ (by omega), List.set_append_right _ _ (by omega)]
  simp only [Nat.sub_self, Nat.add_sub_cancel_left, List.set_cons_zero, List.set_cons_succ]
 rw [e] at h4
 exact h4
theorem keb_set4 {bad : Nat → Prop} (W : World) (g L : Nat) (h : bad g) (v0 v1 v2 v3 : Value) : KeB bad W ((((W.setCell ⟨g, L, none⟩ v0).setCell ⟨g, L + 1, none⟩ v1).setCell ⟨g, L + 2, none⟩ v2).setCell ⟨g, L + 3, none⟩ v3) :=
 (((KeB.set W ⟨g, L, none⟩ v0 h).trans (KeB.set _ ⟨g, L + 1, none⟩ v1 h)).trans (KeB.set _ ⟨g, L + 2, none⟩ v2 h)).trans (KeB.set _ ⟨g, L + 3, none⟩ v3 h)
section
variable {V W : World} {b1 o1 xg ln xc L : Nat} {cs : List Value} {k : Int} {z0 z1 z2 z3 : Value} (hk : KeB (fun b => b = xg) V W) (ho : W.ownsRow 0 51 4 (.slice (some ⟨xg, 0, none⟩) (ln + 1) xc) (ln + 1) (cs ++ [z0, z1, z2, z3])) (hl : cs.length = L) (hne : b1 ≠ xg) (hlt : b1 < V.heap.size)
include hk ho hl hne hlt
theorem rm7_a : Rm7 V (((((W.setCell ⟨xg, L, none⟩ (.int .i64 k)).setCell ⟨xg, L + 1, none⟩ (.int .i64 0)).setCell ⟨xg, L + 2, none⟩ (.int .i64 0)).setCell ⟨xg, L + 3, none⟩ (.slice none 0 0)).setCell ⟨b1, o1 + 3, none⟩ (.slice (some ⟨xg, 0, none⟩) (ln + 1) xc)) b1 o1 xg ln xc cs k := by
 have h4 := keb_set4 (bad := fun b => b = xg) W xg L rfl (.int .i64 k) (.int .i64 0) (.int .i64 0) (.slice none 0 0)
 refine ⟨((hk.trans h4).mono (fun b e => .inr e)).trans (KeB.set _ ⟨b1, o1 + 3, none⟩ _ (.inl rfl)), set_same ((hk.trans h4).block b1 hlt hne) _ _, ?_⟩
 exact own_eq (own_set4 ho hl (.int .i64 k) (.int .i64 0) (.int .i64 0) (.slice none 0 0)) ((KeB.set (bad := fun b => b = b1) _ ⟨b1, o1 + 3, none⟩ _ rfl).block xg (by have := (World.ownsRow.lt ho xg rfl).2; have := h4.size; omega) (fun e => hne e.symm))
theorem rm7_c {X : World} (hX : KeB (fun b => b = b1) W X ∧ X.heap[b1]? = (W.setCell ⟨b1, o1 + 3, none⟩ (.slice (some ⟨xg, 0, none⟩) (ln + 1) xc)).heap[b1]?) : Rm7 V ((((X.setCell ⟨xg, L, none⟩ (.int .i64 k)).setCell ⟨xg, L + 1, none⟩ (.int .i64 0)).setCell ⟨xg, L + 2, none⟩ (.int .i64 0)).setCell ⟨xg, L + 3, none⟩ (.slice none 0 0)) b1 o1 xg ln xc cs k := by
 have h4 := keb_set4 (bad := fun b => b = xg) X xg L rfl (.int .i64 k) (.int .i64 0) (.int .i64 0) (.slice none 0 0)
 refine ⟨((hk.mono (fun b e => .inr e)).trans (hX.1.mono (fun b e => .inl e))).trans (h4.mono (fun b e => .inr e)), (h4.block b1 (by have := hk.size; have := hX.1.size; omega) hne).trans (hX.2.trans (set_same (hk.block b1 hlt hne) _ _)), ?_⟩
 exact own_set4 (own_eq ho (hX.1.block xg (World.ownsRow.lt ho xg rfl).2 (fun e => hne e.symm))) hl (.int .i64 k) (.int .i64 0) (.int .i64 0) (.slice none 0 0)
end
theorem PaP.keb0 {d : CfD} {tbs : List IltD} {toks : List Int} {bp nb base : Nat} {c : Int → Int → Value → List Value} {RES : PsR Tre} {U W : World} {x : FrM} {fs : List FrM} {a left : Nat} {oa : Option Addr} {oc : Nat} {k : Int} {ks : List Int} (h : PaP d tbs toks bp nb base c RES U x fs a left oa oc k ks) (hk : KeB (fun _ => False) U W) : PaP d tbs toks bp nb base c RES W x fs a left oa oc k ks :=
 ⟨h.go, h.hks, h.pla, h.num, (hk.block bp h.blk.lt (fun e => e)).trans h.blk, own_keb h.opn hk (fun _ _ e => e), h.all.keb hk (fun _ _ e => e) (fun e => e) (fun _ _ e => e), h.okx, h.oky, h.nd, fun y hy => ⟨(h.gs y hy).1, Nat.lt_of_lt_of_le (h.gs y hy).2.1 hk.size, (h.gs y hy).2.2⟩⟩
set_option maxRecDepth 100000 in
set_option maxHeartbeats 16000000 in
theorem putAll_any (W0 : World) (d : CfD) (ta : Option Addr) (tc : Nat) (tbs : List IltD) (ka : Option Addr) (kc : Nat) (toks : List Int) (hE : PrE W0 d ta tc tbs ka kc toks) (bp nb : Nat) (w : World) (hW : Below W0.heap.size W0 w) (hbp : W0.heap.size ≤ bp) (hnbp : W0.heap.size ≤ nb) (hB : Blk w bp 155 [.slice d.ta d.toks.length d.tc, .slice d.na d.names.length d.nc, .slice d.aa d.alts.length d.ac, .slice ta tbs.length tc, .slice ka toks.length kc, .int .i64 0, .int .i64 0, .slice none 0 0]) (hN : Blk w nb 51 [.int .i64 (-1), .int .i64 0, .int .i64 0, .slice none 0 0]) (hne : bp ≠ nb) :
 Calls Try.prog 121 #[.pointer (some ⟨bp, 0, none⟩), .pointer (some ⟨nb, 0, none⟩)] w (PalQ w bp nb (fun (y : Int) (x : Int) (v : Value) => [.slice d.ta d.toks.length d.tc, .slice d.na d.names.length d.nc, .slice d.aa d.alts.length d.ac, .slice ta tbs.length tc, .slice ka toks.length kc, .int .i64 y, .int .i64 x, v]) (psPut (gOf d tbs toks) 20000 (-1) 0 20000)) := by
 obtain ⟨RES, HRS⟩ : ∃ q, Hid (psPut (gOf d tbs toks) 20000 (-1) 0 20000 = q) := ⟨_, Lib.hid rfl⟩
 rw [HRS.out]
 obtain ⟨Q, hQ⟩ : ∃ Q : Ending → World → Prop, Hid (PalQ w bp nb (fun (y : Int) (x : Int) (v : Value) => [.slice d.ta d.toks.length d.tc, .slice d.na d.names.length d.nc, .slice d.aa d.alts.length d.ac, .slice ta tbs.length tc, .slice ka toks.length kc, .int .i64 y, .int .i64 x, v]) RES = Q) := ⟨_, Lib.hid rfl⟩
 rw [hQ.out]
 have HQB : Hid (∀ W (b : Nat) x, RES = .bad b x → KeB (fun b => b = bp ∨ b = nb) w W → (∃ v0 v1 v2 v3, Blk W nb 51 [v0, v1, v2, v3]) → Q (refuP (b : Int) x) W) := Lib.hid (fun W b x h hk hx => by rw [← hQ.out, h]; exact ⟨hk, rfl, hx⟩)
 have HQO : Hid (∀ W t b q oa oc ga gc, PaE bp nb w.heap.size (fun (y : Int) (x : Int) (v : Value) => [.slice d.ta d.toks.length d.tc, .slice d.na d.names.length d.nc, .slice d.aa d.alts.length d.ac, .slice ta tbs.length tc, .slice ka toks.length kc, .int .i64 y, .int .i64 x, v]) RES W t b q oa oc ga gc → KeB (fun b => b = bp ∨ b = nb) w W → Q (.returned (.tuple #[])) W) := Lib.hid (fun W t b q oa oc ga gc h hk => by rw [← hQ.out]; refine ⟨hk, ?_⟩; have h2 := h; rw [h.res] at h2 ⊢; exact ⟨rfl, oa, oc, ga, gc, h2⟩)
 clear hQ
 have hbl := hB.lt
 have hnl := hN.lt
 have h1 := pput_any W0 d ta tc tbs ka kc toks hE 0 bp nb 0 20000 (-1) 0 none 0 0 w.heap.size [] w hW hbp (by omega) (by omega) hB (World.ownsRow_nil _ _ _ 1) (by omega) (Nat.le_refl _) (.int .i64 0) (.slice none 0 0) 0 (hN.cell 0) (hN.cell 1) (hN.frozen 1) (hN.cell 2) (hN.frozen 2) (hN.cell 3) (hN.frozen 3) hne (by intro e; cases e) (by intro e; cases e) (Nat.zero_le _) (by omega)
 have H1 := Lib.hid h1
 have hfr := first_res (G := gOf d tbs toks) (k := -1) (a := 0) (left := 20000) (by omega) (by omega) (by omega)
 rw [HRS.out] at hfr
 have HFR := Lib.hid hfr
 have HB := Lib.hid hB
 have HN := Lib.hid hN
 have HW := Lib.hid hW
 have HE := Lib.hid hE
 clear h1 hfr hB hN hW hE
 go_enter Try.func121, Try.ntmps121
 go_wp2_with (fail)
 refine H1.out.mono ?_
 intro e4 w4 h4
 have hstart : (∃ b x, RES = .bad b x ∧ e4 = refuP ((b : Nat) : Int) x ∧ KeB (fun b => b = bp ∨ b = nb) w w4 ∧ (∃ v0 v1 v2 v3, Blk w4 nb 51 [v0, v1, v2, v3])) ∨ (e4 = .returned (.tuple #[]) ∧ ∃ gk, (fun gk wr => ∃ (a left n : Nat) (oa : Option Addr) (oc : Nat), Hid (gk = 2 * left + n) ∧ Hid (Blk wr bp 155 [.slice d.ta d.toks.length d.tc, .slice d.na d.names.length d.nc, .slice d.aa d.alts.length d.ac, .slice ta tbs.length tc, .slice ka toks.length kc, .int .i64 (a : Int), .int .i64 (20000 - (left : Int)), .slice oa n oc]) ∧ Hid (KeB (fun b => b = bp ∨ b = nb) w wr) ∧ Hid ((n = 0 ∧ ∃ t ga gc, PaE bp nb w.heap.size (fun (y : Int) (x : Int) (v : Value) => [.slice d.ta d.toks.length d.tc, .slice d.na d.names.length d.nc, .slice d.aa d.alts.length d.ac, .slice ta tbs.length tc, .slice ka toks.length kc, .int .i64 y, .int .i64 x, v]) RES wr t a left oa oc ga gc) ∨ (∃ x fs, n = fs.length + 1 ∧ PaI d tbs toks bp nb w.heap.size (fun (y : Int) (x : Int) (v : Value) => [.slice d.ta d.toks.length d.tc, .slice d.na d.names.length d.nc, .slice d.aa d.alts.length d.ac, .slice ta tbs.length tc, .slice ka toks.length kc, .int .i64 y, .int .i64 x, v]) RES wr x fs a left oa oc))) gk w4) := by
  cases h4 with
  | long h he hk => exact absurd h (by omega)
  | tok h h0 ht he hk hb hn ho => exact absurd h0 (by omega)
  | notok h h0 ht he hk => exact absurd h0 (by omega)
  | noalt h h0 ht he hk hk2 =>
   refine .inl ⟨0, 110, ?_, he, hk.mono (fun b e => by rcases e with e | e | e; exact .inl e; exact .inr e; cases e), _, _, _, _, (hk2.block nb hnl (fun e => hne e.symm)).trans HN.out⟩
   have := HFR.out
   rw [ht] at this
   exact this
  | empty h h0 i ht he hk hb hn ho =>
   have hr := HFR.out
   rw [ht] at hr
   have hr2 : RES = .ok ⟨-1, (i : Int), 0, .nil⟩ 0 19999 := hr.trans (go_last rfl)
   rw [show (0 : Int) + 1 = 20000 - ((19999 : Nat) : Int) by omega] at hb
   refine .inr ⟨he, 2 * 19999 + 0, 0, 19999, 0, none, 0, Lib.hid rfl, Lib.hid hb, Lib.hid (hk.mono (fun b e => by rcases e with e | e | e; exact .inl e; exact .inr e; cases e)), Lib.hid (.inl ⟨rfl, ⟨-1, (i : Int), 0, .nil⟩, none, 0, hr2, hb, hn.trans (HN.out.set 1 (.int .i64 (i : Int))), TrS.nil _ _⟩)⟩
  | open_ h h0 i ks g oa' oc' ht hks he hg hk hn hb ho hm hf hf2 =>
   have hr := HFR.out
   rw [ht] at hr
   obtain ⟨ru, al, e1, e2, e3⟩ := alt_some2 ht
   have h30 := (HE.out.srg ru (List.mem_of_getElem? e1) al (List.mem_of_getElem? e2)).1
   rw [show (0 : Int) + 1 = 20000 - ((19999 : Nat) : Int) by omega] at hb
   have hI : PaI d tbs toks bp nb w.heap.size (fun (y : Int) (x : Int) (v : Value) => [.slice d.ta d.toks.length d.tc, .slice d.na d.names.length d.nc, .slice d.aa d.alts.length d.ac, .slice ta tbs.length tc, .slice ka toks.length kc, .int .i64 y, .int .i64 x, v]) RES w4 ⟨⟨-1, (i : Int), .nil, ks⟩, g, ks.length⟩ [] 0 19999 oa' oc' := {
    go := hr
    pla := Nat.zero_le _
    num := by simp
    blk := hb
    opn := ho
    top := ⟨[], rfl, own_mono hm (Nat.zero_le _)⟩
    up := hn.trans ((HN.out.set 1 (.int .i64 (i : Int))).set 3 (.slice (some ⟨g, 0, none⟩) 0 ks.length))
    okx := ⟨by show (-9223372036854775807 : Int) ≤ -1; omega, by show (-1 : Int) < 0; omega, by show 0 + ks.length = ks.length; omega, by show ks.length ≤ 30; rw [e3]; exact h30, i, ru, al, rfl, e1, e2, by rw [← e3], by rw [← e3]; rfl⟩
    oky := fun y hy => by cases hy
    nd := by simp
    gs := fun y hy => by
     rcases List.mem_cons.1 hy with rfl | hy
     ·exact ⟨hg, (World.ownsRow.lt hm g rfl).2, hf2⟩
     ·cases hy }
   exact .inr ⟨he, 2 * 19999 + 1, 0, 19999, 1, oa', oc', Lib.hid rfl, Lib.hid hb, Lib.hid (hk.mono (fun b e => by rcases e with e | e | e; exact .inl e; exact .inr e; cases e)), Lib.hid (.inr ⟨_, [], rfl, hI⟩)⟩
 rcases hstart with ⟨b, x, hr, rfl, hk4, hx4⟩ | ⟨rfl, g0, hrel0⟩
 ·have HQP := HQB.out w4 b x hr hk4 hx4
  unfold refuP
  dsimp only
  have HPu := HQP
  unfold refuP at HPu
  first | exact HPu | (go_wp2_with (fail); first | exact HPu | (simpa [bodyPost] using HPu) | trace_state)
 clear H1 HFR h4
 go_wp2_with (fail)
 go_loopg [4, 5, 6] g0 (fun gk _ _ _ wr => ∃ (a left n : Nat) (oa : Option Addr) (oc : Nat), Hid (gk = 2 * left + n) ∧ Hid (Blk wr bp 155 [.slice d.ta d.toks.length d.tc, .slice d.na d.names.length d.nc, .slice d.aa d.alts.length d.ac, .slice ta tbs.length tc, .slice ka toks.length kc, .int .i64 (a : Int), .int .i64 (20000 - (left : Int)), .slice oa n oc]) ∧ Hid (KeB (fun b => b = bp ∨ b = nb) w wr) ∧ Hid ((n = 0 ∧ ∃ t ga gc, PaE bp nb w.heap.size (fun (y : Int) (x : Int) (v : Value) => [.slice d.ta d.toks.length d.tc, .slice d.na d.names.length d.nc, .slice d.aa d.alts.length d.ac, .slice ta tbs.length tc, .slice ka toks.length kc, .int .i64 y, .int .i64 x, v]) RES wr t a left oa oc ga gc) ∨ (∃ x fs, n = fs.length + 1 ∧ PaI d tbs toks bp nb w.heap.size (fun (y : Int) (x : Int) (v : Value) => [.slice d.ta d.toks.length d.tc, .slice d.na d.names.length d.nc, .slice d.aa d.alts.length d.ac, .slice ta tbs.length tc, .slice ka toks.length kc, .int .i64 y, .int .i64 x, v]) RES wr x fs a left oa oc)))
 case atStart => exact hrel0
 case round =>
  clear hrel0
  obtain ⟨a, left, n, oa, oc, Hg, HBc, HK, hor⟩ := hrel
  obtain ⟨U, rfl⟩ : ∃ U, U = wr := ⟨_, rfl⟩
  rcases hor.out with ⟨rfl, t, ga, gc, hEn⟩ | ⟨x, fs, rfl, hI⟩
  ·have HQE := HQO.out U t a left oa oc ga gc hEn HK.out
   have y7 := HBc.out.cell 7
   have yl := HBc.out.lt
   simp only [List.getElem?_cons_zero, List.getElem?_cons_succ] at y7
   clear hEn
   go_wp2_with (fail)
   first | exact HQE | (first | go_end0 | refine bodyPost_ret (results_none rfl _ _ _) rfl ?_); first | exact HQE | trace_state
  ·obtain ⟨⟨xk, xi, xl, xks⟩, xg, xc⟩ := x
   have HI := Lib.hid hI
   obtain ⟨hx1, hx2, hx3, hx4, i, ru, al, hxi, hru, hal, hll, hdr⟩ := hI.okx
   dsimp only at hx1 hx2 hx3 hx4 hxi hru hal hll hdr
   subst hxi
   have hWU : Below W0.heap.size W0 U := HW.out.trans (HK.out.below HW.out.size (fun b e => by rcases e with rfl | rfl; exact hbp; exact hnbp))
   have HWU := Lib.hid hWU
   -- the pointer
   have hvs := own_vals hI.opn (by rw [ptrs_len]; rfl)
   obtain ⟨z, zo, hz⟩ := hvs.at_ fs.length (by rw [ptrs_len]; exact Nat.lt_succ_self _)
   have cz := hvs.cell z zo hz fs.length (by rw [ptrs_len]; exact Nat.lt_succ_self _)
   rw [(List.getElem?_eq_some_iff.1 (ptrs_last nb _ fs)).2] at cz
   have hocm : fs.length + 1 ≤ oc ∧ oc ≤ 9223372036854775807 := ⟨by have := hvs.le; rwa [ptrs_len] at this, hvs.max⟩
   -- the node
   have c0 := (hI.up.cell rfl (j := 0) (by omega)).1
   have c1 := (hI.up.cell rfl (j := 1) (by omega)).1
   have c3 := (hI.up.cell rfl (j := 3) (by omega)).1
   have f3 := (hI.up.cell rfl (j := 3) (by omega)).2
   have hbl1 := hI.up.lt
   simp only [nodC, List.getElem?_cons_zero, List.getElem?_cons_succ, Nat.add_zero] at c0 c1 c3
   have hadb : adB nb fs ≠ xg := fun e => by
    cases fs with
    | nil =>
     have h9 : w.heap.size ≤ xg := (hI.gs _ (List.mem_cons_self ..)).1
     have e : nb = xg := e
     omega
    | cons y fs => exact (List.nodup_cons.1 hI.nd).1 (by rw [show ({ f := { k := xk, i := (i : Int), l := xl, ks := xks }, g := xg, c := xc } : FrM).g = y.g from e.symm]; exact List.mem_cons_self ..)
   obtain ⟨b1, hb1⟩ : ∃ q, Hid (adB nb fs = q) := ⟨_, Lib.hid rfl⟩
   obtain ⟨o1, ho1⟩ : ∃ q, Hid (adO fs = q) := ⟨_, Lib.hid rfl⟩
   obtain ⟨ln, hlnn⟩ : ∃ q, Hid (xl.len = q) := ⟨_, Lib.hid rfl⟩
   obtain ⟨m, hmm⟩ : ∃ q, Hid (fs.length = q) := ⟨_, Lib.hid rfl⟩
   rw [hb1.out, ho1.out, hmm.out] at cz
   rw [hb1.out, ho1.out] at c0 c1 c3 f3
   rw [hb1.out] at hadb hbl1
   rw [hlnn.out] at c3 hx3 hdr
   rw [hmm.out] at hocm HBc
   -- the alternative
   obtain ⟨r, hr⟩ : ∃ r : Nat, (r : Int) = -1 - xk := ⟨(-1 - xk).toNat, by omega⟩
   rw [show ruL xk = r by unfold ruL; omega] at hru
   obtain ⟨h1, e1⟩ := List.getElem?_eq_some_iff.1 hru
   obtain ⟨h2, e2⟩ := List.getElem?_eq_some_iff.1 hal
   have hGU := (HE.out.grown hWU).ge.gd
   obtain ⟨p, po, hp⟩ := hGU.alts.at_ r (by rw [List.length_map]; exact h1)
   have cp := hGU.alts.cell p po hp r (by rw [List.length_map]; exact h1)
   rw [List.getElem_map, e1] at cp
   have hR := hGU.rules ru (by rw [← e1]; exact List.getElem_mem h1)
   obtain ⟨q, qo, hq⟩ := hR.row.at_ i (by rw [List.length_map]; exact h2)
   have cq := hR.row.cell q qo hq i (by rw [List.length_map]; exact h2)
   rw [List.getElem_map, e2] at cq
   have hXI := hR.nms al (by rw [← e2]; exact List.getElem_mem h2)
   have hXI0 := (HE.out.ge.gd.rules ru (by rw [← e1]; exact List.getElem_mem h1)).nms al (by rw [← e2]; exact List.getElem_mem h2)
   have hsr := HE.out.srg ru (by rw [← e1]; exact List.getElem_mem h1) al (by rw [← e2]; exact List.getElem_mem h2)
   have hrm : ru.ds.length ≤ ru.c ∧ ru.c ≤ 9223372036854775807 := ⟨by have := hR.row.le; rwa [List.length_map] at this, hR.row.max⟩
   have hlm : d.alts.length ≤ d.ac ∧ d.ac ≤ 9223372036854775807 := ⟨by have := hGU.alts.le; rwa [List.length_map] at this, hGU.alts.max⟩
   have hxm : al.l.length ≤ al.c ∧ al.c ≤ 9223372036854775807 := ⟨by have := hXI.le; rwa [List.length_map] at this, hXI.max⟩
   clear e1 e2 hR hGU hru hal hvs hWU
   obtain ⟨rds, ra, rc⟩ := ru
   obtain ⟨wl, wa, wcp⟩ := al
   dsimp only at cp cq hXI hXI0 hsr hrm hxm hll hdr hq h2
   change _ = some (Value.slice ra rds.length rc) at cp
   change _ = some (Value.slice wa wl.length wcp) at cq
   obtain ⟨T, HT⟩ : ∃ q, Hid (d.toks.length = q) := ⟨_, Lib.hid rfl⟩
   obtain ⟨N, HNm⟩ : ∃ q, Hid (d.names.length = q) := ⟨_, Lib.hid rfl⟩
   obtain ⟨L, HL⟩ : ∃ q, Hid (d.alts.length = q) := ⟨_, Lib.hid rfl⟩
   obtain ⟨TB, HTB⟩ : ∃ q, Hid (tbs.length = q) := ⟨_, Lib.hid rfl⟩
   obtain ⟨K, HKK⟩ : ∃ q, Hid (toks.length = q) := ⟨_, Lib.hid rfl⟩
   obtain ⟨RL, hRL⟩ : ∃ q, Hid (rds.length = q) := ⟨_, Lib.hid rfl⟩
   rw [HL.out] at h1 hlm
   rw [hRL.out] at cp hrm h2
   rw [hll] at cq hxm
   have HBc2 := HBc
   rw [HT.out, HNm.out, HL.out, HTB.out, HKK.out] at HBc2
   have HXI := Lib.hid hXI0
   have HSR := Lib.hid hsr
   have HLL := Lib.hid hll
   have HDR := Lib.hid hdr
   have HX3 := Lib.hid hx3
   have Hru := Lib.hid (fun W => by have h := pruleOf_any xk W (by omega); rw [← hr] at h; exact h)
   have y2 := HBc2.out.cell 2
   have y7 := HBc2.out.cell 7
   have yl := HBc2.out.lt
   simp only [List.getElem?_cons_zero, List.getElem?_cons_succ] at y2 y7
   rw [hp] at y2
   rw [hz] at y7
   have zl := World.block_lt_of_cell? _ _ cz
   have pl := World.block_lt_of_cell? _ _ cp
   have ql := World.block_lt_of_cell? _ _ cq
   dsimp only at zl pl ql
   subst hq
   have hi1 : (0 : Int) ≤ (i : Int) := by omega
   have hi2 : (i : Int) < (RL : Int) := by omega
   have hr0 : (0 : Int) ≤ (r : Int) := by omega
   have hr1 : (r : Int) < (L : Int) := by omega
   have hm0 : (0 : Int) ≤ (m : Int) := by omega
   have hm1 : (m : Int) < (m : Int) + 1 := by omega
   have hm2 : (0 : Int) < (m : Int) + 1 := by omega
   have hwm : IntKind.i64.wrap (m : Int) = (m : Int) := IntWalk.i64_in _ (by omega)
   have Hp := Lib.hid hp
   have Hz := Lib.hid hz
   clear hI hx1 hx3 hr hXI hXI0 hsr hll hdr hp hz HBc2
   go_wp2_with (fail)
   go_quiet ((go_at_call 153; exact Calls.quiet_of_same (Hru.out _)))
   generalize hV : World.drewN U _ = V
   have HbV : Hid (Below U.heap.size U V) := Lib.hid (by rw [← hV]; exact below_dN9 (Below.refl _ U) _)
   have c3V := (HbV.out.cell (p := ⟨b1, o1 + 3, none⟩) hbl1).trans c3
   have f3V := (HbV.out.frozen (p := ⟨b1, o1 + 3, none⟩) hbl1).trans f3
   have hbl1V : b1 < V.heap.size := Nat.lt_of_lt_of_le hbl1 HbV.out.size
   clear hV y2 y7 yl cz c0 c1 cp cq zl pl ql
   by_cases hln : ln = xc
   ·have hlnI : ((ln : Int) == (xc : Int)) = true := by rw [beq_iff_eq]; omega
    have hBV := HBc.out.below HbV.out HBc.out.lt
    have hKV : KeB (fun b => b = bp) U (V.setCell ⟨bp, 7, none⟩ (.slice (some ⟨z, zo, none⟩) m oc)) := (KeB.of _ HbV.out).trans (KeB.set V ⟨bp, 7, none⟩ _ rfl)
    have hB9 := hBV.set 7 (.slice (some ⟨z, zo, none⟩) m oc)
    have HKV := Lib.hid hKV
    have HB9 := Lib.hid hB9
    have y7 := hBV.cell 7
    have y7f := hBV.frozen 7
    have yl := hBV.lt
    have hm3 : (m : Int) ≤ (oc : Int) := by omega
    simp only [List.getElem?_cons_zero, List.getElem?_cons_succ] at y7
    rw [Hz.out] at y7
    clear hBV hKV hB9 c3 f3
    go_wp2_with (fail)
    go_roundg (2 * left + m)
    case measure => have := Hg.out; have := hmm.out; omega
    case rel =>
     have hks0 : xks = [] := List.eq_nil_of_length_eq_zero (by have := HX3.out; omega)
     have hI := HI.out
     rw [Hz.out] at hI
     refine ⟨a, left, m, some ⟨z, zo, none⟩, oc, Lib.hid rfl, HB9, Lib.hid (HK.out.step HKV.out (fun b e => .inl (.inl e))), Lib.hid ?_⟩
     cases fs with
     | nil =>
      have hm0 : m = 0 := hmm.out.symm
      have hbox : Blk U nb 51 (nodC ⟨⟨xk, (i : Int), xl, xks⟩, xg, xc⟩ xl.len) := hI.up
      refine .inl ⟨hm0, ⟨xk, (i : Int), 0, xl⟩, some ⟨xg, 0, none⟩, xc, ?_, ?_, ?_, ?_⟩
      ·exact hI.go.trans (go_last hks0)
      ·have h9 := HB9.out
       rw [hm0] at h9 ⊢
       exact h9
      ·exact (HKV.out.block nb hbox.lt (fun e => hne e.symm)).trans hbox
      ·exact trs_keb (hI.top.tree (Q := fun b => w.heap.size ≤ b) (fun b hb _ => hb.1) (hI.gs _ (List.mem_cons_self ..)).1) HKV.out (fun b hb e => by have hb : w.heap.size ≤ b := hb; have e : b = bp := e; omega)
     | cons y fs =>
      have hmy : m = fs.length + 1 := hmm.out.symm
      have h9 := HB9.out
      rw [hmy] at h9 ⊢
      refine .inr ⟨_, fs, rfl, PaI.pop hI hks0 (fun e => hne e.symm) hnl hbl (by have h8 := HKV.out; rw [hmy] at h8; exact h8) h9⟩
   ·have hlnI : ((ln : Int) == (xc : Int)) = false := by rw [beq_eq_false_iff_ne]; omega
    obtain ⟨k, ks, hks⟩ : ∃ k ks, xks = k :: ks := by
     cases xks with
     | nil => exact absurd (by have := HX3.out; simp at this; omega) hln
     | cons k ks => exact ⟨k, ks, rfl⟩
    have hlx : ln < xc := by have := HX3.out; rw [hks] at this; simp only [List.length_cons] at this; omega
    have hlw : ln < wl.length := by rw [HLL.out]; exact hlx
    have hkw : wl[ln]'hlw = k := by
     have h9 := HDR.out
     rw [hks, List.drop_eq_getElem_cons hlw] at h9
     exact (List.cons.inj h9).1
    have hkr : -9223372036854775807 ≤ k := HSR.out.2 k (by rw [← hkw]; exact List.getElem_mem hlw)
    obtain ⟨eb, eo, heb⟩ := HXI.out.at_ ln (by rw [List.length_map]; exact hlw)
    have ce0 := HXI.out.cell eb eo heb ln (by rw [List.length_map]; exact hlw)
    rw [List.getElem_map, hkw] at ce0
    have eblt : eb < W0.heap.size := World.block_lt_of_cell? _ _ ce0
    have ce := (HWU.out.cell (p := ⟨eb, eo + ln, none⟩) eblt).trans ce0
    have ceV := (HbV.out.cell (p := ⟨eb, eo + ln, none⟩) (World.block_lt_of_cell? _ _ ce)).trans ce
    have hgx := HI.out.gs _ (List.mem_cons_self ..)
    have hgx1 : w.heap.size ≤ xg := hgx.1
    have hgxU : xg < U.heap.size := hgx.2.1
    have hW0w := HW.out.size
    have heg : eb ≠ xg := by omega
    have hne1 : b1 ≠ xg := hadb
    have hne2 : xg ≠ b1 := fun e => hadb e.symm
    have hlt1 : b1 < V.heap.size := hbl1V
    have hb1bp : b1 ≠ bp := by
     rw [← hb1.out]
     cases fs with
     | nil => exact fun e => hne e.symm
     | cons y fs => exact fun e => by have h9 : w.heap.size ≤ y.g := (HI.out.gs y (by simp)).1; have e : y.g = bp := e; omega
    obtain ⟨cs, hcs, hown⟩ := HI.out.top
    change TrCs U (Kp w.heap.size _ _) xl cs at hcs
    change U.ownsRow 0 51 4 (.slice (some ⟨xg, 0, none⟩) xl.len xc) xl.len (cs ++ []) at hown
    rw [hlnn.out, List.append_nil] at hown
    have hcl : cs.length = ln * 4 := by have h9 := hcs.len; rw [hlnn.out] at h9; exact h9
    have hownV := own_eq hown (HbV.out.block xg hgxU)
    have hownA : ((V.alloc (.cells #[.int .i64 0, .int .i64 0, .int .i64 0, .slice none 0 0] 51)).drew).ownsRow 0 51 4 (.slice (some ⟨xg, 0, none⟩) ln xc) ln cs := World.ownsRow.alloc hownV (.cells #[.int .i64 0, .int .i64 0, .int .i64 0, .slice none 0 0] 51)
    obtain ⟨i0, hi0, hz0, hs0, hb0⟩ := info_parts info_tree
    have hnew : ∀ j u, [Value.int .i64 0, .int .i64 0, .int .i64 0, .slice none 0 0][j]? = some u → ((V.alloc (.cells #[.int .i64 0, .int .i64 0, .int .i64 0, .slice none 0 0] 51)).drew).cell? ((⟨V.heap.size, 0, none⟩ : Addr).add j) = some u := by
     intro j u hj
     have := World.alloc_heap_new V (.cells #[.int .i64 0, .int .i64 0, .int .i64 0, .slice none 0 0] 51)
     have e : ((⟨V.heap.size, 0, none⟩ : Addr).add j) = ⟨V.heap.size, j, none⟩ := by simp [Addr.add]; exact Eq.symm
     rw [e]
     show (V.alloc (.cells #[.int .i64 0, .int .i64 0, .int .i64 0, .slice none 0 0] 51)).cell? ⟨V.heap.size, j, none⟩ = some u
     unfold World.cell?
     rw [show ((⟨V.heap.size, j, none⟩ : Addr).block) = V.heap.size from rfl, this]
     simp only [Option.bind_some]
     simpa using hj
    obtain ⟨W8, hrun, ho8, hg8⟩ := run_append_fits (P := Try.prog) (w := (V.alloc (.cells #[.int .i64 0, .int .i64 0, .int .i64 0, .slice none 0 0] 51)).drew) 0 49 49 51 i0 4 Try.underlying49 hi0 hs0 xg ln xc cs hownA ⟨V.heap.size, 0, none⟩ 1 1 [.int .i64 0, .int .i64 0, .int .i64 0, .slice none 0 0] rfl hnew (fun u hu => by
     simp only [List.mem_cons, List.not_mem_nil, or_false] at hu
     rcases hu with rfl | rfl | rfl | rfl <;> rfl) (by omega)
    have hK8 : KeB (fun b => b = xg) V W8 := ((KeB.alloc _ V (.cells #[.int .i64 0, .int .i64 0, .int .i64 0, .slice none 0 0] 51)).trans (KeB.of _ ((Below.refl _ (V.alloc (.cells #[.int .i64 0, .int .i64 0, .int .i64 0, .slice none 0 0] 51))).drew))).trans (KeB.gr hg8 (fun b e => (Option.some.inj e).symm))
    have HS7 : Hid (V.drew.cell? ⟨b1, o1 + 3, none⟩ = some (.slice (some ⟨xg, 0, none⟩) ln xc) ∧ V.drew.cell? ⟨eb, eo + ln, none⟩ = some (.int .i64 k)) := Lib.hid ⟨c3V, ceV⟩
    have hb2 : Below V.heap.size V (V.alloc (.cells #[.int .i64 0, .int .i64 0, .int .i64 0, .slice none 0 0] 51)) := (Below.refl _ V).alloc (Nat.le_refl _) _
    have HS7b : Hid (((V.alloc (.cells #[.int .i64 0, .int .i64 0, .int .i64 0, .slice none 0 0] 51)).drew).cell? ⟨b1, o1 + 3, none⟩ = some (.slice (some ⟨xg, 0, none⟩) ln xc) ∧ ((V.alloc (.cells #[.int .i64 0, .int .i64 0, .int .i64 0, .slice none 0 0] 51)).drew).cell? ⟨eb, eo + ln, none⟩ = some (.int .i64 k)) := Lib.hid ⟨(hb2.cell (p := ⟨b1, o1 + 3, none⟩) hlt1).trans c3V, (hb2.cell (p := ⟨eb, eo + ln, none⟩) (World.block_lt_of_cell? _ _ ceV)).trans ceV⟩
    have HS8 : Hid (W8.cell? ⟨b1, o1 + 3, none⟩ = some (.slice (some ⟨xg, 0, none⟩) ln xc) ∧ W8.cell? ⟨eb, eo + ln, none⟩ = some (.int .i64 k)) := Lib.hid ⟨keb_cell hK8 hne1 c3V, keb_cell hK8 heg ceV⟩
    have h49 := keb_set4 (bad := fun b => b = xg) W8 xg (ln * 4) rfl (.int .i64 k) (.int .i64 0) (.int .i64 0) (.slice none 0 0)
    have HS9 : Hid (((((W8.setCell ⟨xg, ln * 4, none⟩ (.int .i64 k)).setCell ⟨xg, ln * 4 + 1, none⟩ (.int .i64 0)).setCell ⟨xg, ln * 4 + 2, none⟩ (.int .i64 0)).setCell ⟨xg, ln * 4 + 3, none⟩ (.slice none 0 0)).cell? ⟨b1, o1 + 3, none⟩ = some (.slice (some ⟨xg, 0, none⟩) ln xc) ∧ ((((W8.setCell ⟨xg, ln * 4, none⟩ (.int .i64 k)).setCell ⟨xg, ln * 4 + 1, none⟩ (.int .i64 0)).setCell ⟨xg, ln * 4 + 2, none⟩ (.int .i64 0)).setCell ⟨xg, ln * 4 + 3, none⟩ (.slice none 0 0)).cell? ⟨eb, eo + ln, none⟩ = some (.int .i64 k)) := Lib.hid ⟨keb_cell h49 hne1 HS8.out.1, keb_cell h49 heg HS8.out.2⟩
    have HK8 := Lib.hid hK8
    have HO8 := Lib.hid ho8
    have HLcs := Lib.hid hcl
    have Hcs := Lib.hid hcs
    have Hrun := Lib.hid hrun
    have q0 := ho8.cellAt (ln * 4) (by omega)
    have q1 := ho8.cellAt (ln * 4 + 1) (by omega)
    have q2 := ho8.cellAt (ln * 4 + 2) (by omega)
    have q3 := ho8.cellAt (ln * 4 + 3) (by omega)
    rw [List.getElem?_append_right (by omega), hcl] at q0 q1 q2 q3
    simp only [Nat.sub_self, Nat.add_sub_cancel_left, List.getElem?_cons_zero, List.getElem?_cons_succ] at q0 q1 q2 q3
    have qf0 := own_frz (j := ln * 4) ho8
    have qf1 := own_frz (j := ln * 4 + 1) ho8
    have qf2 := own_frz (j := ln * 4 + 2) ho8
    have qf3 := own_frz (j := ln * 4 + 3) ho8
    have qgl : xg < W8.heap.size := (World.ownsRow.lt ho8 xg rfl).2
    have t3 := HS8.out.1
    have tf3 : W8.frozen? ⟨b1, o1 + 3, none⟩ = false := (World.frozen?_of_block (a := ⟨b1, o1 + 3, none⟩) (hK8.block b1 hlt1 hne1)).trans f3V
    have tbl : b1 < W8.heap.size := Nat.lt_of_lt_of_le hlt1 hK8.size
    have hlnI0 : (0 : Int) ≤ (ln : Int) := by omega
    have hlnI1 : (ln : Int) < (xc : Int) := by omega
    have hlnI2 : (ln : Int) < (ln : Int) + 1 := by omega
    have hxc30 : xc ≤ 30 := hx4
    subst heb
    clear hnew hownA hownV hown hrun hg8 h49 hK8 ho8 hcs hcl hb2 ce ce0 c3 f3 hgx hkw hz0 hi0 hs0 hb0 ceV
    go_upto_region 7 with fail
    go_cut [5] from 10 to 95 (fun v5 wc => v5 = .pointer (some ⟨b1, o1, none⟩) ∧ Hid (Rm7 V wc b1 o1 xg ln xc cs k))
    case first =>
     refine region_till 20 (fun w' => w'.cell? ⟨b1, o1 + 3, none⟩ = some (.slice (some ⟨xg, 0, none⟩) ln xc) ∧ w'.cell? ⟨eb, eo + ln, none⟩ = some (.int .i64 k)) (by kernel_rfl) ?_
     refine till_takeY (i := 0) [15, 20] (v := ?_) (iatLS iatZS) (by kernel_rfl) (by kernel_rfl) (by kernel_rfl) (fun _ _ _ h => h) (by decide) (by kernel_rfl) (by decide) (by kernel_rfl) (Or.inl ⟨by rfl, ?_⟩) HS7.out ?_
     rotate_left
     ·intro w hSw
      try dsimp only at hSw
      go_simp
      all_goals with_reducible rfl
     try simp only [Act.put, List.setIfInBounds_toArray, List.set_cons_zero, List.set_cons_succ]
     refine till_takeY (i := 1) [15, 20] (v := ?_) (iatLS (iatSS iatZS)) (by kernel_rfl) (by kernel_rfl) (by kernel_rfl) (fun _ _ _ h => h) (by decide) (by kernel_rfl) (by decide) (by kernel_rfl) (Or.inl ⟨by rfl, ?_⟩) HS7.out ?_
     rotate_left
     ·intro w hSw
      try dsimp only at hSw
      go_simp
      all_goals with_reducible rfl
     try simp only [Act.put, List.setIfInBounds_toArray, List.set_cons_zero, List.set_cons_succ]
     refine till_takeY (i := 2) [15, 20] (v := ?_) (iatLS (iatSS (iatSS iatZS))) (by kernel_rfl) (by kernel_rfl) (by kernel_rfl) (fun _ _ _ h => h) (by decide) (by kernel_rfl) (by decide) (by kernel_rfl) (Or.inl ⟨by rfl, ?_⟩) HS7.out ?_
     rotate_left
     ·intro w hSw
      try dsimp only at hSw
      go_simp
      all_goals with_reducible rfl
     try simp only [Act.put, List.setIfInBounds_toArray, List.set_cons_zero, List.set_cons_succ]
     refine till_takeY (i := 3) [15, 20] (v := ?_) (iatLS (iatSS (iatSS (iatSS iatZS)))) (by kernel_rfl) (by kernel_rfl) (by kernel_rfl) (fun _ _ _ h => h) (by decide) (by kernel_rfl) (by decide) (by kernel_rfl) (Or.inl ⟨by rfl, ?_⟩) HS7.out ?_
     rotate_left
     ·intro w hSw
      try dsimp only at hSw
      go_simp
      all_goals with_reducible rfl
     try simp only [Act.put, List.setIfInBounds_toArray, List.set_cons_zero, List.set_cons_succ]
     refine till_takeY (i := 4) [15, 20] (v := ?_) (iatLS (iatSS (iatSS (iatSS (iatSS iatZS))))) (by kernel_rfl) (by kernel_rfl) (by kernel_rfl) (fun _ _ _ h => h) (by decide) (by kernel_rfl) (by decide) (by kernel_rfl) (Or.inl ⟨by rfl, ?_⟩) HS7.out ?_
     rotate_left
     ·intro w hSw
      try dsimp only at hSw
      go_simp
      all_goals with_reducible rfl
     try simp only [Act.put, List.setIfInBounds_toArray, List.set_cons_zero, List.set_cons_succ]
     refine till_takeY (i := 5) [15, 20] (v := ?_) (iatLS (iatSS (iatSS (iatSS (iatSS (iatSS iatZS)))))) (by kernel_rfl) (by kernel_rfl) (by kernel_rfl) (fun _ _ _ h => h) (by decide) (by kernel_rfl) (by decide) (by kernel_rfl) (Or.inl ⟨by rfl, ?_⟩) HS7.out ?_
     rotate_left
     ·intro w hSw
      try dsimp only at hSw
      go_simp
      all_goals with_reducible rfl
     try simp only [Act.put, List.setIfInBounds_toArray, List.set_cons_zero, List.set_cons_succ]
     refine till_takeY (i := 6) [15, 20] (v := ?_) (iatLS (iatSS (iatSS (iatSS (iatSS (iatSS (iatSS iatZS))))))) (by kernel_rfl) (by kernel_rfl) (by kernel_rfl) (fun _ _ _ h => h) (by decide) (by kernel_rfl) (by decide) (by kernel_rfl) (Or.inl ⟨by rfl, ?_⟩) HS7.out ?_
     rotate_left
     ·intro w hSw
      try dsimp only at hSw
      go_simp
      all_goals with_reducible rfl
     try simp only [Act.put, List.setIfInBounds_toArray, List.set_cons_zero, List.set_cons_succ]
     refine till_takeY (i := 7) [15, 20] (v := ?_) (iatLS (iatSS (iatSS (iatSS (iatSS (iatSS (iatSS (iatSS iatZS)))))))) (by kernel_rfl) (by kernel_rfl) (by kernel_rfl) (fun _ _ _ h => h) (by decide) (by kernel_rfl) (by decide) (by kernel_rfl) (Or.inl ⟨by rfl, ?_⟩) HS7.out ?_
     rotate_left
     ·intro w hSw
      try dsimp only at hSw
      go_simp
      all_goals with_reducible rfl
     try simp only [Act.put, List.setIfInBounds_toArray, List.set_cons_zero, List.set_cons_succ]
     refine till_takeY (i := 8) [15, 20] (v := ?_) (iatLS (iatSS (iatSS (iatSS (iatSS (iatSS (iatSS (iatSS (iatSS iatZS))))))))) (by kernel_rfl) (by kernel_rfl) (by kernel_rfl) (fun _ _ _ h => h) (by decide) (by kernel_rfl) (by decide) (by kernel_rfl) (Or.inl ⟨by rfl, ?_⟩) HS7.out ?_
     rotate_left
     ·intro w hSw
      try dsimp only at hSw
      go_simp
      all_goals with_reducible rfl
     try simp only [Act.put, List.setIfInBounds_toArray, List.set_cons_zero, List.set_cons_succ]
     refine till_takeY (i := 9) [15, 20] (v := ?_) (iatLS (iatSS (iatSS (iatSS (iatSS (iatSS (iatSS (iatSS (iatSS (iatSS iatZS)))))))))) (by kernel_rfl) (by kernel_rfl) (by kernel_rfl) (fun _ _ _ h => h) (by decide) (by kernel_rfl) (by decide) (by kernel_rfl) (Or.inl ⟨by rfl, ?_⟩) HS7.out ?_
     rotate_left
     ·intro w hSw
      try dsimp only at hSw
      go_simp
      all_goals with_reducible rfl
     try simp only [Act.put, List.setIfInBounds_toArray, List.set_cons_zero, List.set_cons_succ]
     refine till_takeY (i := 10) [15, 20] (v := ?_) (iatLS (iatSS (iatSS (iatSS (iatSS (iatSS (iatSS (iatSS (iatSS (iatSS (iatSS iatZS))))))))))) (by kernel_rfl) (by kernel_rfl) (by kernel_rfl) (fun _ _ _ h => h) (by decide) (by kernel_rfl) (by decide) (by kernel_rfl) (Or.inl ⟨by rfl, ?_⟩) HS7.out ?_
     rotate_left
     ·intro w hSw
      try dsimp only at hSw
      go_simp
      all_goals with_reducible rfl
     try simp only [Act.put, List.setIfInBounds_toArray, List.set_cons_zero, List.set_cons_succ]
     refine till_takeY (i := 11) [15, 20] (v := ?_) (iatLS (iatSS (iatSS (iatSS (iatSS (iatSS (iatSS (iatSS (iatSS (iatSS (iatSS (iatSS iatZS)))))))))))) (by kernel_rfl) (by kernel_rfl) (by kernel_rfl) (fun _ _ _ h => h) (by decide) (by kernel_rfl) (by decide) (by kernel_rfl) (Or.inl ⟨by rfl, ?_⟩) HS7.out ?_
     rotate_left
     ·intro w hSw
      try dsimp only at hSw
      go_simp
      all_goals with_reducible rfl
     try simp only [Act.put, List.setIfInBounds_toArray, List.set_cons_zero, List.set_cons_succ]
     refine till_takeY (i := 12) [15, 20] (v := ?_) (iatLS (iatSS (iatSS (iatSS (iatSS (iatSS (iatSS (iatSS (iatSS (iatSS (iatSS (iatSS (iatSS iatZS))))))))))))) (by kernel_rfl) (by kernel_rfl) (by kernel_rfl) (fun _ _ _ h => h) (by decide) (by kernel_rfl) (by decide) (by kernel_rfl) (Or.inl ⟨by rfl, ?_⟩) HS7.out ?_
     rotate_left
     ·intro w hSw
      try dsimp only at hSw
      go_simp
      all_goals with_reducible rfl
     try simp only [Act.put, List.setIfInBounds_toArray, List.set_cons_zero, List.set_cons_succ]
     refine till_takeY (i := 13) [15, 20] (v := ?_) (iatLS (iatSS (iatSS (iatSS (iatSS (iatSS (iatSS (iatSS (iatSS (iatSS (iatSS (iatSS (iatSS (iatSS iatZS)))))))))))))) (by kernel_rfl) (by kernel_rfl) (by kernel_rfl) (fun _ _ _ h => h) (by decide) (by kernel_rfl) (by decide) (by kernel_rfl) (Or.inl ⟨by rfl, ?_⟩) HS7.out ?_
     rotate_left
     ·intro w hSw
      try dsimp only at hSw
      go_simp
      all_goals with_reducible rfl
     try simp only [Act.put, List.setIfInBounds_toArray, List.set_cons_zero, List.set_cons_succ]
     refine till_ready (rs := [14]) (by kernel_rfl) (by simp) ?_
     refine TillAll.cons (iatLS (iatSS (iatSS (iatSS (iatSS (iatSS (iatSS (iatSS (iatSS (iatSS (iatSS (iatSS (iatSS (iatSS (iatSS iatZS))))))))))))))) (fun K hK => ?_) TillAll.nil
     go_simp
     refine hK.out _ _ ?_ ?_
     ·exact fun _ => HS7b.out
     clear hK K
     try simp only [Act.put, List.setIfInBounds_toArray, List.set_cons_zero, List.set_cons_succ]
     refine till_ready (rs := [15]) (by kernel_rfl) (by simp) ?_
     refine TillAll.cons (iatLS (iatSS (iatSS (iatSS (iatSS (iatSS (iatSS (iatSS (iatSS (iatSS (iatSS (iatSS (iatSS (iatSS (iatSS (iatSS iatZS)))))))))))))))) (fun K hK => ?_) TillAll.nil
     refine step_append_run rfl _ _ 49 49 rfl _ _ _ _ rfl rfl Hrun.out ?_
     refine hK.out _ _ ?_ ?_
     ·exact fun _ => HS8.out
     clear hK K
     try simp only [Act.put, List.setIfInBounds_toArray, List.set_cons_zero, List.set_cons_succ]
     refine till_ready (rs := [16, 18]) (by kernel_rfl) (by simp) ?_
     refine TillAll.cons (iatLS (iatSS (iatSS (iatSS (iatSS (iatSS (iatSS (iatSS (iatSS (iatSS (iatSS (iatSS (iatSS (iatSS (iatSS (iatSS (iatSS iatZS))))))))))))))))) (fun K hK => ?_) (TillAll.cons (iatLS (iatSS (iatSS (iatSS (iatSS (iatSS (iatSS (iatSS (iatSS (iatSS (iatSS (iatSS (iatSS (iatSS (iatSS (iatSS (iatSS (iatSS (iatSS iatZS))))))))))))))))))) (fun K hK => ?_) (TillAll.nil))
     ·
      go_simp
      refine hK.out _ _ ?_ ?_
      ·exact fun _ => HS8.out
      clear hK K
      try simp only [Act.put, List.setIfInBounds_toArray, List.set_cons_zero, List.set_cons_succ]
      refine till_ready (rs := [17, 18]) (by kernel_rfl) (by simp) ?_
      refine TillAll.cons (iatLS (iatSS (iatSS (iatSS (iatSS (iatSS (iatSS (iatSS (iatSS (iatSS (iatSS (iatSS (iatSS (iatSS (iatSS (iatSS (iatSS (iatSS iatZS)))))))))))))))))) (fun K hK => ?_) (TillAll.cons (iatLS (iatSS (iatSS (iatSS (iatSS (iatSS (iatSS (iatSS (iatSS (iatSS (iatSS (iatSS (iatSS (iatSS (iatSS (iatSS (iatSS (iatSS (iatSS iatZS))))))))))))))))))) (fun K hK => ?_) (TillAll.nil))
      ·
       go_simp
       refine hK.out _ _ ?_ ?_
       ·exact fun _ => HS9.out
       clear hK K
       try simp only [Act.put, List.setIfInBounds_toArray, List.set_cons_zero, List.set_cons_succ]
       refine till_ready (rs := [18]) (by kernel_rfl) (by simp) ?_
       refine TillAll.cons (iatLS (iatSS (iatSS (iatSS (iatSS (iatSS (iatSS (iatSS (iatSS (iatSS (iatSS (iatSS (iatSS (iatSS (iatSS (iatSS (iatSS (iatSS (iatSS iatZS))))))))))))))))))) (fun K hK => ?_) (TillAll.nil)
       go_simp
       refine hK.out _ _ ?_ ?_
       ·exact fun _ => HS9.out
       clear hK K
       try simp only [Act.put, List.setIfInBounds_toArray, List.set_cons_zero, List.set_cons_succ]
       refine till_ready (rs := [19]) (by kernel_rfl) (by simp) ?_
       refine TillAll.cons (iatLS (iatSS (iatSS (iatSS (iatSS (iatSS (iatSS (iatSS (iatSS (iatSS (iatSS (iatSS (iatSS (iatSS (iatSS (iatSS (iatSS (iatSS (iatSS (iatSS iatZS)))))))))))))))))))) (fun K hK => ?_) (TillAll.nil)
       go_simp
       refine hK.out _ _ ?_ ?_
       ·exact fun _ => HS9.out
       clear hK K
       try simp only [Act.put, List.setIfInBounds_toArray, List.set_cons_zero, List.set_cons_succ]
       refine till_ready (rs := [20]) (by kernel_rfl) (by simp) ?_
       refine TillAll.cons (iatLS (iatSS (iatSS (iatSS (iatSS (iatSS (iatSS (iatSS (iatSS (iatSS (iatSS (iatSS (iatSS (iatSS (iatSS (iatSS (iatSS (iatSS (iatSS (iatSS (iatSS iatZS))))))))))))))))))))) (fun K hK => ?_) (TillAll.nil)
       go_simp
       refine hK.out _ _ ?_ ?_
       ·exact fun h => nomatch (show (true : Bool) = false from h)
       clear hK K
       try simp only [Act.put, List.setIfInBounds_toArray, List.set_cons_zero, List.set_cons_succ]
       refine till_done (by kernel_rfl) ?_ _
       go_wp2_with (fail)
       go_meet
       refine ⟨rfl, Lib.hid ?_⟩
       exact rm7_a HK8.out HO8.out HLcs.out hne1 hlt1
      ·
       go_simp
       refine hK.out _ _ ?_ ?_
       ·exact fun _ => HS8.out
       clear hK K
       try simp only [Act.put, List.setIfInBounds_toArray, List.set_cons_zero, List.set_cons_succ]
       refine till_ready (rs := [17, 19]) (by kernel_rfl) (by simp) ?_
       refine TillAll.cons (iatLS (iatSS (iatSS (iatSS (iatSS (iatSS (iatSS (iatSS (iatSS (iatSS (iatSS (iatSS (iatSS (iatSS (iatSS (iatSS (iatSS (iatSS iatZS)))))))))))))))))) (fun K hK => ?_) (TillAll.cons (iatLS (iatSS (iatSS (iatSS (iatSS (iatSS (iatSS (iatSS (iatSS (iatSS (iatSS (iatSS (iatSS (iatSS (iatSS (iatSS (iatSS (iatSS (iatSS (iatSS iatZS)))))))))))))))))))) (fun K hK => ?_) (TillAll.nil))
       ·
        go_simp
        refine hK.out _ _ ?_ ?_
        ·exact fun _ => HS9.out
        clear hK K
        try simp only [Act.put, List.setIfInBounds_toArray, List.set_cons_zero, List.set_cons_succ]
        refine till_ready (rs := [19]) (by kernel_rfl) (by simp) ?_
        refine TillAll.cons (iatLS (iatSS (iatSS (iatSS (iatSS (iatSS (iatSS (iatSS (iatSS (iatSS (iatSS (iatSS (iatSS (iatSS (iatSS (iatSS (iatSS (iatSS (iatSS (iatSS iatZS)))))))))))))))))))) (fun K hK => ?_) (TillAll.nil)
        go_simp
        refine hK.out _ _ ?_ ?_
        ·exact fun _ => HS9.out
        clear hK K
        try simp only [Act.put, List.setIfInBounds_toArray, List.set_cons_zero, List.set_cons_succ]
        refine till_ready (rs := [20]) (by kernel_rfl) (by simp) ?_
        refine TillAll.cons (iatLS (iatSS (iatSS (iatSS (iatSS (iatSS (iatSS (iatSS (iatSS (iatSS (iatSS (iatSS (iatSS (iatSS (iatSS (iatSS (iatSS (iatSS (iatSS (iatSS (iatSS iatZS))))))))))))))))))))) (fun K hK => ?_) (TillAll.nil)
        go_simp
        refine hK.out _ _ ?_ ?_
        ·exact fun h => nomatch (show (true : Bool) = false from h)
        clear hK K
        try simp only [Act.put, List.setIfInBounds_toArray, List.set_cons_zero, List.set_cons_succ]
        refine till_done (by kernel_rfl) ?_ _
        go_wp2_with (fail)
        go_meet
        refine ⟨rfl, Lib.hid ?_⟩
        exact rm7_a HK8.out HO8.out HLcs.out hne1 hlt1
       ·
        go_simp
        refine hK.out _ _ ?_ ?_
        ·exact fun _ => HS8.out
        clear hK K
        try simp only [Act.put, List.setIfInBounds_toArray, List.set_cons_zero, List.set_cons_succ]
        refine till_ready (rs := [17, 20]) (by kernel_rfl) (by simp) ?_
        refine TillAll.cons (iatLS (iatSS (iatSS (iatSS (iatSS (iatSS (iatSS (iatSS (iatSS (iatSS (iatSS (iatSS (iatSS (iatSS (iatSS (iatSS (iatSS (iatSS iatZS)))))))))))))))))) (fun K hK => ?_) (TillAll.cons (iatLS (iatSS (iatSS (iatSS (iatSS (iatSS (iatSS (iatSS (iatSS (iatSS (iatSS (iatSS (iatSS (iatSS (iatSS (iatSS (iatSS (iatSS (iatSS (iatSS (iatSS iatZS))))))))))))))))))))) (fun K hK => ?_) (TillAll.nil))
        ·
         go_simp
         refine hK.out _ _ ?_ ?_
         ·exact fun _ => HS9.out
         clear hK K
         try simp only [Act.put, List.setIfInBounds_toArray, List.set_cons_zero, List.set_cons_succ]
         refine till_ready (rs := [20]) (by kernel_rfl) (by simp) ?_
         refine TillAll.cons (iatLS (iatSS (iatSS (iatSS (iatSS (iatSS (iatSS (iatSS (iatSS (iatSS (iatSS (iatSS (iatSS (iatSS (iatSS (iatSS (iatSS (iatSS (iatSS (iatSS (iatSS iatZS))))))))))))))))))))) (fun K hK => ?_) (TillAll.nil)
         go_simp
         refine hK.out _ _ ?_ ?_
         ·exact fun h => nomatch (show (true : Bool) = false from h)
         clear hK K
         try simp only [Act.put, List.setIfInBounds_toArray, List.set_cons_zero, List.set_cons_succ]
         refine till_done (by kernel_rfl) ?_ _
         go_wp2_with (fail)
         go_meet
         refine ⟨rfl, Lib.hid ?_⟩
         exact rm7_a HK8.out HO8.out HLcs.out hne1 hlt1
        ·
         go_simp
         generalize hW9 : World.setCell W8 _ _ = W9
         have HX9 : Hid (KeB (fun b => b = b1) W8 W9 ∧ W9.heap[b1]? = (W8.setCell ⟨b1, o1 + 3, none⟩ (.slice (some ⟨xg, 0, none⟩) (ln + 1) xc)).heap[b1]?) := Lib.hid (by rw [← hW9]; exact ⟨KeB.set W8 ⟨b1, o1 + 3, none⟩ _ rfl, rfl⟩)
         have p0 := keb_cell HX9.out.1 hne2 q0
         have p1 := keb_cell HX9.out.1 hne2 q1
         have p2 := keb_cell HX9.out.1 hne2 q2
         have p3 := keb_cell HX9.out.1 hne2 q3
         have pf0 : W9.frozen? ⟨xg, ln * 4, none⟩ = false := (World.frozen?_of_block (a := ⟨xg, ln * 4, none⟩) (HX9.out.1.block xg qgl hne2)).trans qf0
         have pf1 : W9.frozen? ⟨xg, ln * 4 + 1, none⟩ = false := (World.frozen?_of_block (a := ⟨xg, ln * 4 + 1, none⟩) (HX9.out.1.block xg qgl hne2)).trans qf1
         have pf2 : W9.frozen? ⟨xg, ln * 4 + 2, none⟩ = false := (World.frozen?_of_block (a := ⟨xg, ln * 4 + 2, none⟩) (HX9.out.1.block xg qgl hne2)).trans qf2
         have pf3 : W9.frozen? ⟨xg, ln * 4 + 3, none⟩ = false := (World.frozen?_of_block (a := ⟨xg, ln * 4 + 3, none⟩) (HX9.out.1.block xg qgl hne2)).trans qf3
         have pgl : xg < W9.heap.size := Nat.lt_of_lt_of_le qgl HX9.out.1.size
         clear hW9 q0 q1 q2 q3 qf0 qf1 qf2 qf3 qgl t3 tf3 tbl
         refine hK.out _ _ ?_ ?_
         ·exact fun h => nomatch (show (true : Bool) = false from h)
         clear hK K
         try simp only [Act.put, List.setIfInBounds_toArray, List.set_cons_zero, List.set_cons_succ]
         refine till_ready (rs := [17]) (by kernel_rfl) (by simp) ?_
         refine TillAll.cons (iatLS (iatSS (iatSS (iatSS (iatSS (iatSS (iatSS (iatSS (iatSS (iatSS (iatSS (iatSS (iatSS (iatSS (iatSS (iatSS (iatSS (iatSS iatZS)))))))))))))))))) (fun K hK => ?_) (TillAll.nil)
         go_simp
         refine hK.out _ _ ?_ ?_
         ·exact fun h => nomatch (show (true : Bool) = false from h)
         clear hK K
         try simp only [Act.put, List.setIfInBounds_toArray, List.set_cons_zero, List.set_cons_succ]
         refine till_done (by kernel_rfl) ?_ _
         go_wp2_with (fail)
         go_meet
         refine ⟨rfl, Lib.hid ?_⟩
         exact rm7_c HK8.out HO8.out HLcs.out hne1 hlt1 HX9.out
     ·
      go_simp
      refine hK.out _ _ ?_ ?_
      ·exact fun _ => HS8.out
      clear hK K
      try simp only [Act.put, List.setIfInBounds_toArray, List.set_cons_zero, List.set_cons_succ]
      refine till_ready (rs := [16, 19]) (by kernel_rfl) (by simp) ?_
      refine TillAll.cons (iatLS (iatSS (iatSS (iatSS (iatSS (iatSS (iatSS (iatSS (iatSS (iatSS (iatSS (iatSS (iatSS (iatSS (iatSS (iatSS (iatSS iatZS))))))))))))))))) (fun K hK => ?_) (TillAll.cons (iatLS (iatSS (iatSS (iatSS (iatSS (iatSS (iatSS (iatSS (iatSS (iatSS (iatSS (iatSS (iatSS (iatSS (iatSS (iatSS (iatSS (iatSS (iatSS (iatSS iatZS)))))))))))))))))))) (fun K hK => ?_) (TillAll.nil))
      ·
       go_simp
       refine hK.out _ _ ?_ ?_
       ·exact fun _ => HS8.out
       clear hK K
       try simp only [Act.put, List.setIfInBounds_toArray, List.set_cons_zero, List.set_cons_succ]
       refine till_ready (rs := [17, 19]) (by kernel_rfl) (by simp) ?_
       refine TillAll.cons (iatLS (iatSS (iatSS (iatSS (iatSS (iatSS (iatSS (iatSS (iatSS (iatSS (iatSS (iatSS (iatSS (iatSS (iatSS (iatSS (iatSS (iatSS iatZS)))))))))))))))))) (fun K hK => ?_) (TillAll.cons (iatLS (iatSS (iatSS (iatSS (iatSS (iatSS (iatSS (iatSS (iatSS (iatSS (iatSS (iatSS (iatSS (iatSS (iatSS (iatSS (iatSS (iatSS (iatSS (iatSS iatZS)))))))))))))))))))) (fun K hK => ?_) (TillAll.nil))
       ·
        go_simp
        refine hK.out _ _ ?_ ?_
        ·exact fun _ => HS9.out
        clear hK K
        try simp only [Act.put, List.setIfInBounds_toArray, List.set_cons_zero, List.set_cons_succ]
        refine till_ready (rs := [19]) (by kernel_rfl) (by simp) ?_
        refine TillAll.cons (iatLS (iatSS (iatSS (iatSS (iatSS (iatSS (iatSS (iatSS (iatSS (iatSS (iatSS (iatSS (iatSS (iatSS (iatSS (iatSS (iatSS (iatSS (iatSS (iatSS iatZS)))))))))))))))))))) (fun K hK => ?_) (TillAll.nil)
        go_simp
        refine hK.out _ _ ?_ ?_
        ·exact fun _ => HS9.out
        clear hK K
        try simp only [Act.put, List.setIfInBounds_toArray, List.set_cons_zero, List.set_cons_succ]
        refine till_ready (rs := [20]) (by kernel_rfl) (by simp) ?_
        refine TillAll.cons (iatLS (iatSS (iatSS (iatSS (iatSS (iatSS (iatSS (iatSS (iatSS (iatSS (iatSS (iatSS (iatSS (iatSS (iatSS (iatSS (iatSS (iatSS (iatSS (iatSS (iatSS iatZS))))))))))))))))))))) (fun K hK => ?_) (TillAll.nil)
        go_simp
        refine hK.out _ _ ?_ ?_
        ·exact fun h => nomatch (show (true : Bool) = false from h)
        clear hK K
        try simp only [Act.put, List.setIfInBounds_toArray, List.set_cons_zero, List.set_cons_succ]
        refine till_done (by kernel_rfl) ?_ _
        go_wp2_with (fail)
        go_meet
        refine ⟨rfl, Lib.hid ?_⟩
        exact rm7_a HK8.out HO8.out HLcs.out hne1 hlt1
       ·
        go_simp
        refine hK.out _ _ ?_ ?_
        ·exact fun _ => HS8.out
        clear hK K
        try simp only [Act.put, List.setIfInBounds_toArray, List.set_cons_zero, List.set_cons_succ]
        refine till_ready (rs := [17, 20]) (by kernel_rfl) (by simp) ?_
        refine TillAll.cons (iatLS (iatSS (iatSS (iatSS (iatSS (iatSS (iatSS (iatSS (iatSS (iatSS (iatSS (iatSS (iatSS (iatSS (iatSS (iatSS (iatSS (iatSS iatZS)))))))))))))))))) (fun K hK => ?_) (TillAll.cons (iatLS (iatSS (iatSS (iatSS (iatSS (iatSS (iatSS (iatSS (iatSS (iatSS (iatSS (iatSS (iatSS (iatSS (iatSS (iatSS (iatSS (iatSS (iatSS (iatSS (iatSS iatZS))))))))))))))))))))) (fun K hK => ?_) (TillAll.nil))
        ·
         go_simp
         refine hK.out _ _ ?_ ?_
         ·exact fun _ => HS9.out
         clear hK K
         try simp only [Act.put, List.setIfInBounds_toArray, List.set_cons_zero, List.set_cons_succ]
         refine till_ready (rs := [20]) (by kernel_rfl) (by simp) ?_
         refine TillAll.cons (iatLS (iatSS (iatSS (iatSS (iatSS (iatSS (iatSS (iatSS (iatSS (iatSS (iatSS (iatSS (iatSS (iatSS (iatSS (iatSS (iatSS (iatSS (iatSS (iatSS (iatSS iatZS))))))))))))))))))))) (fun K hK => ?_) (TillAll.nil)
         go_simp
         refine hK.out _ _ ?_ ?_
         ·exact fun h => nomatch (show (true : Bool) = false from h)
         clear hK K
         try simp only [Act.put, List.setIfInBounds_toArray, List.set_cons_zero, List.set_cons_succ]
         refine till_done (by kernel_rfl) ?_ _
         go_wp2_with (fail)
         go_meet
         refine ⟨rfl, Lib.hid ?_⟩
         exact rm7_a HK8.out HO8.out HLcs.out hne1 hlt1
        ·
         go_simp
         generalize hW9 : World.setCell W8 _ _ = W9
         have HX9 : Hid (KeB (fun b => b = b1) W8 W9 ∧ W9.heap[b1]? = (W8.setCell ⟨b1, o1 + 3, none⟩ (.slice (some ⟨xg, 0, none⟩) (ln + 1) xc)).heap[b1]?) := Lib.hid (by rw [← hW9]; exact ⟨KeB.set W8 ⟨b1, o1 + 3, none⟩ _ rfl, rfl⟩)
         have p0 := keb_cell HX9.out.1 hne2 q0
         have p1 := keb_cell HX9.out.1 hne2 q1
         have p2 := keb_cell HX9.out.1 hne2 q2
         have p3 := keb_cell HX9.out.1 hne2 q3
         have pf0 : W9.frozen? ⟨xg, ln * 4, none⟩ = false := (World.frozen?_of_block (a := ⟨xg, ln * 4, none⟩) (HX9.out.1.block xg qgl hne2)).trans qf0
         have pf1 : W9.frozen? ⟨xg, ln * 4 + 1, none⟩ = false := (World.frozen?_of_block (a := ⟨xg, ln * 4 + 1, none⟩) (HX9.out.1.block xg qgl hne2)).trans qf1
         have pf2 : W9.frozen? ⟨xg, ln * 4 + 2, none⟩ = false := (World.frozen?_of_block (a := ⟨xg, ln * 4 + 2, none⟩) (HX9.out.1.block xg qgl hne2)).trans qf2
         have pf3 : W9.frozen? ⟨xg, ln * 4 + 3, none⟩ = false := (World.frozen?_of_block (a := ⟨xg, ln * 4 + 3, none⟩) (HX9.out.1.block xg qgl hne2)).trans qf3
         have pgl : xg < W9.heap.size := Nat.lt_of_lt_of_le qgl HX9.out.1.size
         clear hW9 q0 q1 q2 q3 qf0 qf1 qf2 qf3 qgl t3 tf3 tbl
         refine hK.out _ _ ?_ ?_
         ·exact fun h => nomatch (show (true : Bool) = false from h)
         clear hK K
         try simp only [Act.put, List.setIfInBounds_toArray, List.set_cons_zero, List.set_cons_succ]
         refine till_ready (rs := [17]) (by kernel_rfl) (by simp) ?_
         refine TillAll.cons (iatLS (iatSS (iatSS (iatSS (iatSS (iatSS (iatSS (iatSS (iatSS (iatSS (iatSS (iatSS (iatSS (iatSS (iatSS (iatSS (iatSS (iatSS iatZS)))))))))))))))))) (fun K hK => ?_) (TillAll.nil)
         go_simp
         refine hK.out _ _ ?_ ?_
         ·exact fun h => nomatch (show (true : Bool) = false from h)
         clear hK K
         try simp only [Act.put, List.setIfInBounds_toArray, List.set_cons_zero, List.set_cons_succ]
         refine till_done (by kernel_rfl) ?_ _
         go_wp2_with (fail)
         go_meet
         refine ⟨rfl, Lib.hid ?_⟩
         exact rm7_c HK8.out HO8.out HLcs.out hne1 hlt1 HX9.out
      ·
       go_simp
       refine hK.out _ _ ?_ ?_
       ·exact fun _ => HS8.out
       clear hK K
       try simp only [Act.put, List.setIfInBounds_toArray, List.set_cons_zero, List.set_cons_succ]
       refine till_ready (rs := [16, 20]) (by kernel_rfl) (by simp) ?_
       refine TillAll.cons (iatLS (iatSS (iatSS (iatSS (iatSS (iatSS (iatSS (iatSS (iatSS (iatSS (iatSS (iatSS (iatSS (iatSS (iatSS (iatSS (iatSS iatZS))))))))))))))))) (fun K hK => ?_) (TillAll.cons (iatLS (iatSS (iatSS (iatSS (iatSS (iatSS (iatSS (iatSS (iatSS (iatSS (iatSS (iatSS (iatSS (iatSS (iatSS (iatSS (iatSS (iatSS (iatSS (iatSS (iatSS iatZS))))))))))))))))))))) (fun K hK => ?_) (TillAll.nil))
       ·
        go_simp
        refine hK.out _ _ ?_ ?_
        ·exact fun _ => HS8.out
        clear hK K
        try simp only [Act.put, List.setIfInBounds_toArray, List.set_cons_zero, List.set_cons_succ]
        refine till_ready (rs := [17, 20]) (by kernel_rfl) (by simp) ?_
        refine TillAll.cons (iatLS (iatSS (iatSS (iatSS (iatSS (iatSS (iatSS (iatSS (iatSS (iatSS (iatSS (iatSS (iatSS (iatSS (iatSS (iatSS (iatSS (iatSS iatZS)))))))))))))))))) (fun K hK => ?_) (TillAll.cons (iatLS (iatSS (iatSS (iatSS (iatSS (iatSS (iatSS (iatSS (iatSS (iatSS (iatSS (iatSS (iatSS (iatSS (iatSS (iatSS (iatSS (iatSS (iatSS (iatSS (iatSS iatZS))))))))))))))))))))) (fun K hK => ?_) (TillAll.nil))
        ·
         go_simp
         refine hK.out _ _ ?_ ?_
         ·exact fun _ => HS9.out
         clear hK K
         try simp only [Act.put, List.setIfInBounds_toArray, List.set_cons_zero, List.set_cons_succ]
         refine till_ready (rs := [20]) (by kernel_rfl) (by simp) ?_
         refine TillAll.cons (iatLS (iatSS (iatSS (iatSS (iatSS (iatSS (iatSS (iatSS (iatSS (iatSS (iatSS (iatSS (iatSS (iatSS (iatSS (iatSS (iatSS (iatSS (iatSS (iatSS (iatSS iatZS))))))))))))))))))))) (fun K hK => ?_) (TillAll.nil)
         go_simp
         refine hK.out _ _ ?_ ?_
         ·exact fun h => nomatch (show (true : Bool) = false from h)
         clear hK K
         try simp only [Act.put, List.setIfInBounds_toArray, List.set_cons_zero, List.set_cons_succ]
         refine till_done (by kernel_rfl) ?_ _
         go_wp2_with (fail)
         go_meet
         refine ⟨rfl, Lib.hid ?_⟩
         exact rm7_a HK8.out HO8.out HLcs.out hne1 hlt1
        ·
         go_simp
         generalize hW9 : World.setCell W8 _ _ = W9
         have HX9 : Hid (KeB (fun b => b = b1) W8 W9 ∧ W9.heap[b1]? = (W8.setCell ⟨b1, o1 + 3, none⟩ (.slice (some ⟨xg, 0, none⟩) (ln + 1) xc)).heap[b1]?) := Lib.hid (by rw [← hW9]; exact ⟨KeB.set W8 ⟨b1, o1 + 3, none⟩ _ rfl, rfl⟩)
         have p0 := keb_cell HX9.out.1 hne2 q0
         have p1 := keb_cell HX9.out.1 hne2 q1
         have p2 := keb_cell HX9.out.1 hne2 q2
         have p3 := keb_cell HX9.out.1 hne2 q3
         have pf0 : W9.frozen? ⟨xg, ln * 4, none⟩ = false := (World.frozen?_of_block (a := ⟨xg, ln * 4, none⟩) (HX9.out.1.block xg qgl hne2)).trans qf0
         have pf1 : W9.frozen? ⟨xg, ln * 4 + 1, none⟩ = false := (World.frozen?_of_block (a := ⟨xg, ln * 4 + 1, none⟩) (HX9.out.1.block xg qgl hne2)).trans qf1
         have pf2 : W9.frozen? ⟨xg, ln * 4 + 2, none⟩ = false := (World.frozen?_of_block (a := ⟨xg, ln * 4 + 2, none⟩) (HX9.out.1.block xg qgl hne2)).trans qf2
         have pf3 : W9.frozen? ⟨xg, ln * 4 + 3, none⟩ = false := (World.frozen?_of_block (a := ⟨xg, ln * 4 + 3, none⟩) (HX9.out.1.block xg qgl hne2)).trans qf3
         have pgl : xg < W9.heap.size := Nat.lt_of_lt_of_le qgl HX9.out.1.size
         clear hW9 q0 q1 q2 q3 qf0 qf1 qf2 qf3 qgl t3 tf3 tbl
         refine hK.out _ _ ?_ ?_
         ·exact fun h => nomatch (show (true : Bool) = false from h)
         clear hK K
         try simp only [Act.put, List.setIfInBounds_toArray, List.set_cons_zero, List.set_cons_succ]
         refine till_ready (rs := [17]) (by kernel_rfl) (by simp) ?_
         refine TillAll.cons (iatLS (iatSS (iatSS (iatSS (iatSS (iatSS (iatSS (iatSS (iatSS (iatSS (iatSS (iatSS (iatSS (iatSS (iatSS (iatSS (iatSS (iatSS iatZS)))))))))))))))))) (fun K hK => ?_) (TillAll.nil)
         go_simp
         refine hK.out _ _ ?_ ?_
         ·exact fun h => nomatch (show (true : Bool) = false from h)
         clear hK K
         try simp only [Act.put, List.setIfInBounds_toArray, List.set_cons_zero, List.set_cons_succ]
         refine till_done (by kernel_rfl) ?_ _
         go_wp2_with (fail)
         go_meet
         refine ⟨rfl, Lib.hid ?_⟩
         exact rm7_c HK8.out HO8.out HLcs.out hne1 hlt1 HX9.out
       ·
        go_simp
        generalize hW9 : World.setCell W8 _ _ = W9
        have HX9 : Hid (KeB (fun b => b = b1) W8 W9 ∧ W9.heap[b1]? = (W8.setCell ⟨b1, o1 + 3, none⟩ (.slice (some ⟨xg, 0, none⟩) (ln + 1) xc)).heap[b1]?) := Lib.hid (by rw [← hW9]; exact ⟨KeB.set W8 ⟨b1, o1 + 3, none⟩ _ rfl, rfl⟩)
        have p0 := keb_cell HX9.out.1 hne2 q0
        have p1 := keb_cell HX9.out.1 hne2 q1
        have p2 := keb_cell HX9.out.1 hne2 q2
        have p3 := keb_cell HX9.out.1 hne2 q3
        have pf0 : W9.frozen? ⟨xg, ln * 4, none⟩ = false := (World.frozen?_of_block (a := ⟨xg, ln * 4, none⟩) (HX9.out.1.block xg qgl hne2)).trans qf0
        have pf1 : W9.frozen? ⟨xg, ln * 4 + 1, none⟩ = false := (World.frozen?_of_block (a := ⟨xg, ln * 4 + 1, none⟩) (HX9.out.1.block xg qgl hne2)).trans qf1
        have pf2 : W9.frozen? ⟨xg, ln * 4 + 2, none⟩ = false := (World.frozen?_of_block (a := ⟨xg, ln * 4 + 2, none⟩) (HX9.out.1.block xg qgl hne2)).trans qf2
        have pf3 : W9.frozen? ⟨xg, ln * 4 + 3, none⟩ = false := (World.frozen?_of_block (a := ⟨xg, ln * 4 + 3, none⟩) (HX9.out.1.block xg qgl hne2)).trans qf3
        have pgl : xg < W9.heap.size := Nat.lt_of_lt_of_le qgl HX9.out.1.size
        clear hW9 q0 q1 q2 q3 qf0 qf1 qf2 qf3 qgl t3 tf3 tbl
        refine hK.out _ _ ?_ ?_
        ·exact fun h => nomatch (show (true : Bool) = false from h)
        clear hK K
        try simp only [Act.put, List.setIfInBounds_toArray, List.set_cons_zero, List.set_cons_succ]
        refine till_ready (rs := [16]) (by kernel_rfl) (by simp) ?_
        refine TillAll.cons (iatLS (iatSS (iatSS (iatSS (iatSS (iatSS (iatSS (iatSS (iatSS (iatSS (iatSS (iatSS (iatSS (iatSS (iatSS (iatSS (iatSS iatZS))))))))))))))))) (fun K hK => ?_) (TillAll.nil)
        go_simp
        refine hK.out _ _ ?_ ?_
        ·exact fun h => nomatch (show (true : Bool) = false from h)
        clear hK K
        try simp only [Act.put, List.setIfInBounds_toArray, List.set_cons_zero, List.set_cons_succ]
        refine till_ready (rs := [17]) (by kernel_rfl) (by simp) ?_
        refine TillAll.cons (iatLS (iatSS (iatSS (iatSS (iatSS (iatSS (iatSS (iatSS (iatSS (iatSS (iatSS (iatSS (iatSS (iatSS (iatSS (iatSS (iatSS (iatSS iatZS)))))))))))))))))) (fun K hK => ?_) (TillAll.nil)
        go_simp
        refine hK.out _ _ ?_ ?_
        ·exact fun h => nomatch (show (true : Bool) = false from h)
        clear hK K
        try simp only [Act.put, List.setIfInBounds_toArray, List.set_cons_zero, List.set_cons_succ]
        refine till_done (by kernel_rfl) ?_ _
        go_wp2_with (fail)
        go_meet
        refine ⟨rfl, Lib.hid ?_⟩
        exact rm7_c HK8.out HO8.out HLcs.out hne1 hlt1 HX9.out
    case rest =>
     obtain ⟨rfl, HR7⟩ := hcut
     obtain ⟨hk7, hh7, ho7⟩ := HR7.out
     have hKU : KeB (fun b => b = adB nb fs ∨ b = xg) U wc := by rw [hb1.out]; exact (KeB.of _ HbV.out).trans hk7
     have hHU : wc.heap[adB nb fs]? = (U.setCell ⟨adB nb fs, adO fs + 3, none⟩ (.slice (some ⟨xg, 0, none⟩) (xl.len + 1) xc)).heap[adB nb fs]? := by
      rw [hb1.out, ho1.out, hlnn.out]
      exact hh7.trans (set_same (HbV.out.block b1 hbl1) _ _)
     have hP := PaI.next HI.out (fun e => hne e.symm) hnl hbl hks Hcs.out hKU hHU (by show wc.ownsRow 0 51 4 (.slice (some ⟨xg, 0, none⟩) (xl.len + 1) xc) (xl.len + 1) _; rw [hlnn.out]; exact ho7)
     have hPd := hP.keb0 (KeB.of (fun _ => False) ((Below.refl _ wc).drew))
     have hadb2 : b1 = nb ∨ w.heap.size ≤ b1 := by
      rw [← hb1.out]
      cases fs with
      | nil => exact .inl rfl
      | cons y fs => exact .inr (HI.out.gs y (by simp)).1
     have hKw : KeB (fun b => b = bp ∨ b = nb) w wc.drew := (HK.out.step hKU (fun b e => by
      rw [hb1.out] at e
      rcases e with rfl | rfl
      ·rcases hadb2 with h | h
       ·exact .inl (.inr h)
       ·exact .inr h
      ·exact .inr hgx1)).step (KeB.of (fun _ => False) ((Below.refl _ wc).drew)) (fun b e => e.elim)
     have hbadd := hPd.bad hnl hbl
     have hownl : ∀ b, (Value.slice oa (fs.length + 1) oc).ownBlock = some b → w.heap.size ≤ b := fun b e => (World.ownsRow.lt hPd.opn b e).1
     have hbb1 : ¬ (b1 = bp ∨ b1 = xg ∨ (Value.slice oa (fs.length + 1) oc).ownBlock = some b1) := by
      rw [← hb1.out]
      cases fs with
      | nil => exact hbadd.2.2 (fun e => hne e.symm)
      | cons y fs => exact hbadd.2.1 y (by simp)
     have hnum := hPd.num
     have hWd : Below W0.heap.size W0 wc.drew := HW.out.trans (hKw.below HW.out.size (fun b e => by rcases e with rfl | rfl; exact hbp; exact hnbp))
     have hc := pput_any W0 d ta tc tbs ka kc toks HE.out a bp xg (xl.len * 4) left k (20000 - (left : Int)) oa (fs.length + 1) oc w.heap.size _ wc.drew hWd hbp (by omega) (by omega) hPd.blk hPd.opn (by omega) (by have := hKw.size; exact this) _ _ 0 (hPd.all.cell rfl (j := 0) (by omega)).1 (hPd.all.cell rfl (j := 1) (by omega)).1 (hPd.all.cell rfl (j := 1) (by omega)).2 (hPd.all.cell rfl (j := 2) (by omega)).1 (hPd.all.cell rfl (j := 2) (by omega)).2 (hPd.all.cell rfl (j := 3) (by omega)).1 (hPd.all.cell rfl (j := 3) (by omega)).2 (by omega) (fun e => (HI.out.gs _ (List.mem_cons_self ..)).2.2 e) (fun e => by have := hownl _ e; omega) hPd.pla hkr
     rw [hlnn.out] at hc
     have c8 := (hPd.all.2.cell rfl (j := 3) (by omega)).1
     simp only [nodC, List.getElem?_cons_zero, List.getElem?_cons_succ] at c8
     rw [hb1.out, ho1.out, hlnn.out] at c8
     have HS0 : Hid (wc.drew.cell? ⟨b1, o1 + 3, none⟩ = some (.slice (some ⟨xg, 0, none⟩) (ln + 1) xc)) := Lib.hid c8
     have Hc := Lib.hid hc
     have HPd := Lib.hid hPd
     have HKw := Lib.hid hKw
     have Hownl := Lib.hid hownl
     have Hbb1 := Lib.hid hbb1
     have Hks := Lib.hid hks
     have Hnum := Lib.hid hnum
     have HKR := Lib.hid hkr
     have hwl : IntKind.i64.wrap (ln : Int) = (ln : Int) := IntWalk.i64_in _ (by omega)
     clear hk7 hh7 ho7 hKU hHU hP hPd hKw hbadd hownl hbb1 hnum hWd hc c8 Hrun HS7 HS7b HS8 HS9 HK8 HO8 HLcs q0 q1 q2 q3 qf0 qf1 qf2 qf3 qgl t3 tf3 tbl c3V f3V hks hkr hadb2
     go_wp2_with (fail)
     refine wp_region_held_drew (S := fun w' => w'.cell? ⟨b1, o1 + 3, none⟩ = some (.slice (some ⟨xg, 0, none⟩) (ln + 1) xc)) (by kernel_rfl) ?_ (fun hHeld => ?_)
     ·exact HS0.out
     refine wpAnyH_take (i := 0) (v := ?_) (iatLS iatZS) (by kernel_rfl) (by kernel_rfl) (by kernel_rfl) (fun _ _ _ h => h) (Or.inl ⟨by rfl, ?_⟩) (by assumption) ?_
     rotate_left
     ·intro w hSw
      try dsimp only at hSw
      go_simp
      all_goals with_reducible rfl
     try simp only [Act.put, List.setIfInBounds_toArray, List.set_cons_zero, List.set_cons_succ]
     refine wpAnyH_take (i := 1) (v := ?_) (iatLS (iatSS iatZS)) (by kernel_rfl) (by kernel_rfl) (by kernel_rfl) (fun _ _ _ h => h) (Or.inl ⟨by rfl, ?_⟩) (by assumption) ?_
     rotate_left
     ·intro w hSw
      try dsimp only at hSw
      go_simp
      all_goals with_reducible rfl
     try simp only [Act.put, List.setIfInBounds_toArray, List.set_cons_zero, List.set_cons_succ]
     refine wpAnyH_take (i := 2) (v := ?_) (iatLS (iatSS (iatSS iatZS))) (by kernel_rfl) (by kernel_rfl) (by kernel_rfl) (fun _ _ _ h => h) (Or.inl ⟨by rfl, ?_⟩) (by assumption) ?_
     rotate_left
     ·intro w hSw
      try dsimp only at hSw
      go_simp
      all_goals with_reducible rfl
     try simp only [Act.put, List.setIfInBounds_toArray, List.set_cons_zero, List.set_cons_succ]
     refine wpAnyH_take (i := 3) (v := ?_) (iatLS (iatSS (iatSS (iatSS iatZS)))) (by kernel_rfl) (by kernel_rfl) (by kernel_rfl) (fun _ _ _ h => h) (Or.inl ⟨by rfl, ?_⟩) (by assumption) ?_
     rotate_left
     ·intro w hSw
      try dsimp only at hSw
      go_simp
      all_goals with_reducible rfl
     try simp only [Act.put, List.setIfInBounds_toArray, List.set_cons_zero, List.set_cons_succ]
     refine wpAnyH_take (i := 4) (v := ?_) (iatLS (iatSS (iatSS (iatSS (iatSS iatZS))))) (by kernel_rfl) (by kernel_rfl) (by kernel_rfl) (fun _ _ _ h => h) (Or.inl ⟨by rfl, ?_⟩) (by assumption) ?_
     rotate_left
     ·intro w hSw
      try dsimp only at hSw
      go_simp
      all_goals with_reducible rfl
     try simp only [Act.put, List.setIfInBounds_toArray, List.set_cons_zero, List.set_cons_succ]
     refine wpAnyH_take (i := 5) (v := ?_) (iatLS (iatSS (iatSS (iatSS (iatSS (iatSS iatZS)))))) (by kernel_rfl) (by kernel_rfl) (by kernel_rfl) (fun _ _ _ h => h) (Or.inl ⟨by rfl, ?_⟩) (by assumption) ?_
     rotate_left
     ·intro w hSw
      try dsimp only at hSw
      go_simp
      all_goals with_reducible rfl
     try simp only [Act.put, List.setIfInBounds_toArray, List.set_cons_zero, List.set_cons_succ]
     refine wpAnyH_take (i := 6) (v := ?_) (iatLS (iatSS (iatSS (iatSS (iatSS (iatSS (iatSS iatZS))))))) (by kernel_rfl) (by kernel_rfl) (by kernel_rfl) (fun _ _ _ h => h) (Or.inl ⟨by rfl, ?_⟩) (by assumption) ?_
     rotate_left
     ·intro w hSw
      try dsimp only at hSw
      go_simp
      all_goals with_reducible rfl
     try simp only [Act.put, List.setIfInBounds_toArray, List.set_cons_zero, List.set_cons_succ]
     refine wpAnyH_take (i := 7) (v := ?_) (iatLS (iatSS (iatSS (iatSS (iatSS (iatSS (iatSS (iatSS iatZS)))))))) (by kernel_rfl) (by kernel_rfl) (by kernel_rfl) (fun _ _ _ h => h) (Or.inl ⟨by rfl, ?_⟩) (by assumption) ?_
     rotate_left
     ·intro w hSw
      try dsimp only at hSw
      go_simp
      all_goals with_reducible rfl
     try simp only [Act.put, List.setIfInBounds_toArray, List.set_cons_zero, List.set_cons_succ]
     refine wpAnyH_take (i := 8) (v := ?_) (iatLS (iatSS (iatSS (iatSS (iatSS (iatSS (iatSS (iatSS (iatSS iatZS))))))))) (by kernel_rfl) (by kernel_rfl) (by kernel_rfl) (fun _ _ _ h => h) (Or.inl ⟨by rfl, ?_⟩) (by assumption) ?_
     rotate_left
     ·intro w hSw
      try dsimp only at hSw
      go_simp
      all_goals with_reducible rfl
     try simp only [Act.put, List.setIfInBounds_toArray, List.set_cons_zero, List.set_cons_succ]
     refine wpAnyH_take (i := 9) (v := ?_) (iatLS (iatSS (iatSS (iatSS (iatSS (iatSS (iatSS (iatSS (iatSS (iatSS iatZS)))))))))) (by kernel_rfl) (by kernel_rfl) (by kernel_rfl) (fun _ _ _ h => h) (Or.inl ⟨by rfl, ?_⟩) (by assumption) ?_
     rotate_left
     ·intro w hSw
      try dsimp only at hSw
      go_simp
      all_goals with_reducible rfl
     try simp only [Act.put, List.setIfInBounds_toArray, List.set_cons_zero, List.set_cons_succ]
     refine wpAnyH_take (i := 10) (v := ?_) (iatLS (iatSS (iatSS (iatSS (iatSS (iatSS (iatSS (iatSS (iatSS (iatSS (iatSS iatZS))))))))))) (by kernel_rfl) (by kernel_rfl) (by kernel_rfl) (fun _ _ _ h => h) (Or.inl ⟨by rfl, ?_⟩) (by assumption) ?_
     rotate_left
     ·intro w hSw
      try dsimp only at hSw
      go_simp
      all_goals with_reducible rfl
     try simp only [Act.put, List.setIfInBounds_toArray, List.set_cons_zero, List.set_cons_succ]
     refine wpAnyH_take (i := 11) (v := ?_) (iatLS (iatSS (iatSS (iatSS (iatSS (iatSS (iatSS (iatSS (iatSS (iatSS (iatSS (iatSS iatZS)))))))))))) (by kernel_rfl) (by kernel_rfl) (by kernel_rfl) (fun _ _ _ h => h) (Or.inl ⟨by rfl, ?_⟩) (by assumption) ?_
     rotate_left
     ·intro w hSw
      try dsimp only at hSw
      go_simp
      all_goals with_reducible rfl
     try simp only [Act.put, List.setIfInBounds_toArray, List.set_cons_zero, List.set_cons_succ]
     refine wpAnyH_ready (rs := [12]) (by kernel_rfl) (by simp) ?_
     refine AllReadyH.cons (iatLS (iatSS (iatSS (iatSS (iatSS (iatSS (iatSS (iatSS (iatSS (iatSS (iatSS (iatSS (iatSS iatZS))))))))))))) (fun K hK => ?_) AllReadyH.nil
     go_simp
     (with_reducible refine Hc.out.mono ?_)
     intro e9 w9 h9
     have hstep : (∃ b x, RES = .bad b x ∧ e9 = refuP ((b : Nat) : Int) x ∧ KeB (fun b => b = bp ∨ b = nb) w w9 ∧ (∃ v0 v1 v2 v3, Blk w9 nb 51 [v0, v1, v2, v3])) ∨ (e9 = .returned (.tuple #[]) ∧ KeB (fun b => b = bp ∨ b = xg ∨ (Value.slice oa (fs.length + 1) oc).ownBlock = some b) wc.drew w9 ∧ ∃ g', g' < gk ∧ (fun gk wr => ∃ (a left n : Nat) (oa : Option Addr) (oc : Nat), Hid (gk = 2 * left + n) ∧ Hid (Blk wr bp 155 [.slice d.ta d.toks.length d.tc, .slice d.na d.names.length d.nc, .slice d.aa d.alts.length d.ac, .slice ta tbs.length tc, .slice ka toks.length kc, .int .i64 (a : Int), .int .i64 (20000 - (left : Int)), .slice oa n oc]) ∧ Hid (KeB (fun b => b = bp ∨ b = nb) w wr) ∧ Hid ((n = 0 ∧ ∃ t ga gc, PaE bp nb w.heap.size (fun (y : Int) (x : Int) (v : Value) => [.slice d.ta d.toks.length d.tc, .slice d.na d.names.length d.nc, .slice d.aa d.alts.length d.ac, .slice ta tbs.length tc, .slice ka toks.length kc, .int .i64 y, .int .i64 x, v]) RES wr t a left oa oc ga gc) ∨ (∃ x fs, n = fs.length + 1 ∧ PaI d tbs toks bp nb w.heap.size (fun (y : Int) (x : Int) (v : Value) => [.slice d.ta d.toks.length d.tc, .slice d.na d.names.length d.nc, .slice d.aa d.alts.length d.ac, .slice ta tbs.length tc, .slice ka toks.length kc, .int .i64 y, .int .i64 x, v]) RES wr x fs a left oa oc))) g' w9) := by
      have hP := HPd.out
      have hgo := hP.go
      have hn20 : left ≤ 20000 := by have := Hnum.out; omega
      have hbd : ∀ b, (b = bp ∨ b = xg ∨ (Value.slice oa (fs.length + 1) oc).ownBlock = some b) → (b = bp ∨ b = nb) ∨ w.heap.size ≤ b := fun b e => by
       rcases e with e | e | e
       ·exact .inl (.inl e)
       ·exact .inr (by rw [e]; exact hgx1)
       ·exact .inr (Hownl.out b e)
      have hne9 : nb ≠ bp := fun e => hne e.symm
      have Hgg := Hg.out
      have hbx : ∀ {W : World}, KeB (fun b => b = bp ∨ b = xg ∨ (Value.slice oa (fs.length + 1) oc).ownBlock = some b) wc.drew W → ∃ v0 v1 v2 v3, Blk W nb 51 [v0, v1, v2, v3] := fun hk => by
       obtain ⟨v0, v1, v2, v3, hb⟩ := hP.all.box rfl
       exact ⟨v0, v1, v2, v3, (hk.block nb hb.lt ((hP.bad hnl hbl).2.2 hne9)).trans hb⟩
      cases h9 with
      | long h he hk =>
       subst h
       exact .inl ⟨a, 2, hgo.trans (go_long Hks.out), he, HKw.out.step hk hbd, hbx hk⟩
      | notok h h0 ht he hk => exact .inl ⟨a, 110, hgo.trans (go_notok Hks.out hn20 h h0 ht), he, HKw.out.step hk hbd, hbx hk⟩
      | noalt h h0 ht he hk hk2 => exact .inl ⟨a, 110, hgo.trans (go_noalt Hks.out hn20 h h0 ht), he, HKw.out.step hk hbd, hbx hk⟩
      | tok h h0 ht he hk hb hn ho =>
       have ha9 : a < toks.length := (List.getElem?_eq_some_iff.1 ht).1
       rw [show (a : Int) + 1 = ((a + 1 : Nat) : Int) by omega] at hb
       have hI9 := hP.whole hne9 hnl hbl ⟨k, 0, (a : Int), .nil⟩ rfl (j := 2) (by omega) (.int .i64 (a : Int)) rfl (a' := a + 1) (hgo.trans (go_tok Hks.out hn20 h h0 ht)) ha9 h hk hb (by show _ = (World.setCell _ ⟨xg, xl.len * 4 + 2, none⟩ _).heap[xg]?; rw [hlnn.out]; exact hn) ho
       exact .inr ⟨he, hk, 2 * (left - 1) + (fs.length + 1), by omega, a + 1, left - 1, fs.length + 1, oa, oc, Lib.hid rfl, Lib.hid hI9.blk, Lib.hid (HKw.out.step hk hbd), Lib.hid (.inr ⟨_, fs, rfl, hI9⟩)⟩
      | empty h h0 i9 ht he hk hb hn ho =>
       have hI9 := hP.whole hne9 hnl hbl ⟨k, (i9 : Int), 0, .nil⟩ rfl (j := 1) (by omega) (.int .i64 (i9 : Int)) rfl (a' := a) (hgo.trans (go_empty Hks.out hn20 h h0 ht)) hP.pla h hk hb (by show _ = (World.setCell _ ⟨xg, xl.len * 4 + 1, none⟩ _).heap[xg]?; rw [hlnn.out]; exact hn) ho
       exact .inr ⟨he, hk, 2 * (left - 1) + (fs.length + 1), by omega, a, left - 1, fs.length + 1, oa, oc, Lib.hid rfl, Lib.hid hI9.blk, Lib.hid (HKw.out.step hk hbd), Lib.hid (.inr ⟨_, fs, rfl, hI9⟩)⟩
      | open_ h h0 i9 ks9 g9 oa9 oc9 ht hks9 he hg9 hk hn hb ho hm hf hf2 =>
       obtain ⟨ru9, al9, e1, e2, e3⟩ := alt_some2 ht
       have h30 := (HE.out.srg ru9 (List.mem_of_getElem? e1) al9 (List.mem_of_getElem? e2)).1
       have hI9 := hP.opened hne9 hnl hbl h (hgo.trans (go_open Hks.out hn20 h h0 ht)) hg9 hk (by show _ = (World.setCell (World.setCell _ ⟨xg, xl.len * 4 + 1, none⟩ _) ⟨xg, xl.len * 4 + 3, none⟩ _).heap[xg]?; rw [hlnn.out]; exact hn) hb (by show World.ownsRow _ _ _ _ _ _ (_ ++ [.pointer (some ⟨xg, xl.len * 4, none⟩)]); rw [hlnn.out]; exact ho) hm hf hf2 ⟨HKR.out, h0⟩ e1 e2 e3.symm (by rw [e3]; exact h30)
       exact .inr ⟨he, hk, 2 * (left - 1) + (fs.length + 1 + 1), by omega, a, left - 1, fs.length + 1 + 1, oa9, oc9, Lib.hid rfl, Lib.hid hI9.blk, Lib.hid (HKw.out.step hk hbd), Lib.hid (.inr ⟨_, _, rfl, hI9⟩)⟩
     rcases hstep with ⟨b, x, hr, rfl, hk9, hx9⟩ | ⟨rfl, hk9, g9, hg9, hrel9⟩
     ·have HQP := HQB.out w9 b x hr hk9 hx9
      unfold refuP
      dsimp only
      have HPu := HQP
      unfold refuP at HPu
      first | exact HPu | (go_wp2_with (fail); first | exact HPu | (simpa [bodyPost] using HPu) | trace_state)
     have HS10 : Hid (w9.cell? ⟨b1, o1 + 3, none⟩ = some (.slice (some ⟨xg, 0, none⟩) (ln + 1) xc)) := Lib.hid (keb_cell hk9 Hbb1.out HS0.out)
     refine hK.out _ _ ?_ (fun hHeld => ?_)
     ·exact HS10.out
     clear hK K
     try simp only [Act.put, List.setIfInBounds_toArray, List.set_cons_zero, List.set_cons_succ]
     refine wpAnyH_done (by kernel_rfl) ?_ _
     go_wp2_with (fail)
     go_roundg g9
     case measure => exact hg9
     case rel => exact hrel9
end Go.Proofs.Ytfdhaochnbfndaa
