/- Texts joined: Fl. -/
import Derived.Test.YtfdhaochnbfndaaRBAv
set_option linter.unusedVariables false
set_option linter.unusedSimpArgs false
namespace Go.Proofs.Ytfdhaochnbfndaa
open Go.RowKit Go.Maps
attribute [local go_sem] Oper.semAt_some
/-- What holds while a kid is put in the innermost one. -/
structure PaP (d : CfD) (tbs : List IltD) (toks : List Int) (bp nb base : Nat) (c : Int → Int → Value → List Value) (RES : PsR Tre) (W : World) (x : FrM) (fs : List FrM) (a left : Nat) (oa : Option Addr) (oc : Nat) (k : Int) (ks : List Int) : Prop where
 go : RES = psGo (gOf d tbs toks) 20000 ((x :: fs).map FrM.f) a left
 hks : x.f.ks = k :: ks
 pla : a ≤ toks.length
 num : fs.length + 1 + left ≤ 20000
 blk : Blk W bp 155 (c (a : Int) (20000 - (left : Int)) (.slice oa (fs.length + 1) oc))
 opn : W.ownsRow base 157 1 (.slice oa (fs.length + 1) oc) (fs.length + 1) (ptrs nb (x :: fs))
 all : FrU W (Kp base ((x :: fs).map FrM.g) (Value.slice oa (fs.length + 1) oc).ownBlock) nb [.int .i64 k, .int .i64 0, .int .i64 0, .slice none 0 0] ((⟨⟨x.f.k, x.f.i, x.f.l, ks⟩, x.g, x.c⟩ : FrM) :: fs)
 okx : FrOk d (⟨⟨x.f.k, x.f.i, x.f.l, ks⟩, x.g, x.c⟩ : FrM) (x.f.l.len + 1)
 oky : ∀ y ∈ fs, FrOk d y (y.f.l.len + 1)
 nd : ((x :: fs).map FrM.g).Nodup
 gs : ∀ y ∈ x :: fs, base ≤ y.g ∧ y.g < W.heap.size ∧ (Value.slice oa (fs.length + 1) oc).ownBlock ≠ some y.g
/-- An own row is told by its block. -/
theorem own_keb {W W' : World} {bad : Nat → Prop} {base e s n c : Nat} {a : Option Addr} {xs : List Value} (h : W.ownsRow base e s (.slice a n c) n xs) (hk : KeB bad W W') (hb : ∀ b, (Value.slice a n c).ownBlock = some b → ¬ bad b) : W'.ownsRow base e s (.slice a n c) n xs := by
 rcases h.2 with h2 | ⟨g', cp, cur, e1, hg, hk2, hr⟩
 ·exact ⟨h.1, .inl h2⟩
 ·exact ⟨h.1, .inr ⟨g', cp, cur, e1, hg, (hk.block g' (Array.getElem?_eq_some_iff.1 hk2).1 (hb g' (by rw [e1]; rfl))).trans hk2, hr⟩⟩
/-- Room is made for the kid. -/
theorem PaI.next {d : CfD} {tbs : List IltD} {toks : List Int} {bp nb base : Nat} {c : Int → Int → Value → List Value} {RES : PsR Tre} {U W : World} {x : FrM} {fs : List FrM} {a left : Nat} {oa : Option Addr} {oc : Nat} (h : PaI d tbs toks bp nb base c RES U x fs a left oa oc) (hnb : nb ≠ bp) (hbn : nb < base) (hbb : bp < base) {k : Int} {ks : List Int} (hks : x.f.ks = k :: ks) {cs : List Value} (hcs : TrCs U (Kp base ((x :: fs).map FrM.g) (Value.slice oa (fs.length + 1) oc).ownBlock) x.f.l cs)
 (hk : KeB (fun b => b = adB nb fs ∨ b = x.g) U W) (hh : W.heap[adB nb fs]? = (U.setCell ⟨adB nb fs, adO fs + 3, none⟩ (.slice (some ⟨x.g, 0, none⟩) (x.f.l.len + 1) x.c)).heap[adB nb fs]?) (ho : W.ownsRow 0 51 4 (.slice (some ⟨x.g, 0, none⟩) (x.f.l.len + 1) x.c) (x.f.l.len + 1) (cs ++ [.int .i64 k, .int .i64 0, .int .i64 0, .slice none 0 0])) :
 PaP d tbs toks bp nb base c RES W x fs a left oa oc k ks := by
 have hnd := List.nodup_cons.1 h.nd
 have hgx := h.gs x (List.mem_cons_self ..)
 have hadb : adB nb fs = nb ∨ ∃ y ∈ fs, adB nb fs = y.g := by
  cases fs with
  | nil => exact .inl rfl
  | cons y fs => exact .inr ⟨y, List.mem_cons_self .., rfl⟩
 have hP : ∀ b, (Kp base ((x :: fs).map FrM.g) (Value.slice oa (fs.length + 1) oc).ownBlock) b → ¬ (b = adB nb fs ∨ b = x.g) := fun b hb e => by
  rcases e with e | e
  ·rcases hadb with h1 | ⟨y, hy, h1⟩
   ·have := hb.1; omega
   ·exact hb.2.1 (by rw [e, h1]; exact List.mem_map_of_mem (List.mem_cons_of_mem _ hy))
  ·exact hb.2.1 (by rw [e]; exact List.mem_cons_self ..)
 have hown := World.ownsRow.lt h.opn
 have hbad : ∀ b, (Value.slice oa (fs.length + 1) oc).ownBlock = some b → ¬ (b = adB nb fs ∨ b = x.g) := fun b hb e => by
  rcases e with e | e
  ·rcases hadb with h1 | ⟨y, hy, h1⟩
   ·have := (hown b hb).1; omega
   ·exact (h.gs y (List.mem_cons_of_mem _ hy)).2.2 (by rw [hb, e, h1])
  ·exact hgx.2.2 (by rw [hb, e])
 have hoth : ∀ y ∈ fs.drop 1, ¬ (y.g = adB nb fs ∨ y.g = x.g) := fun y hy e => by
  have hy1 : y ∈ fs := List.mem_of_mem_drop hy
  rcases e with e | e
  ·cases fs with
   | nil => cases hy1
   | cons z fs => exact (List.nodup_cons.1 hnd.2).1 (by rw [show z.g = y.g from e.symm]; exact List.mem_map_of_mem hy)
  ·exact hnd.1 (by rw [← e]; exact List.mem_map_of_mem hy1)
 have hnb2 : fs ≠ [] → ¬ (nb = adB nb fs ∨ nb = x.g) := fun hf e => by
  rcases e with e | e
  ·cases fs with
   | nil => exact hf rfl
   | cons z fs =>
    have := (h.gs z (by simp)).1
    have e : nb = z.g := e
    omega
  ·have := hgx.1; omega
 have hup := FrU.upd (W' := W) h.up rfl (j := 3) (by omega) (.slice (some ⟨x.g, 0, none⟩) (x.f.l.len + 1) x.c) hk hP hoth hnb2 hh
 obtain ⟨hm1, hm2, hm3, hm4, i, ru, al, hi, hr, hd, hl, hdr⟩ := h.okx
 exact {
  go := h.go
  hks := hks
  pla := h.pla
  num := h.num
  blk := (hk.block bp h.blk.lt (fun e => by
   rcases e with e | e
   ·rcases hadb with h1 | ⟨y, hy, h1⟩
    ·exact hnb (by rw [← h1, ← e])
    ·have := (h.gs y (List.mem_cons_of_mem _ hy)).1; omega
   ·have := hgx.1; omega)).trans h.blk
  opn := own_keb h.opn hk hbad
  all := ⟨⟨cs, trcs_keb hcs hk hP, ho⟩, hup⟩
  okx := ⟨hm1, hm2, by rw [hks] at hm3; simp only [List.length_cons] at hm3; show x.f.l.len + 1 + ks.length = x.c; omega, hm4, i, ru, al, hi, hr, hd, hl, by
   show al.l.drop (x.f.l.len + 1) = ks
   rw [← List.drop_drop, hdr, hks]
   rfl⟩
  oky := h.oky
  nd := h.nd
  gs := fun y hy => ⟨(h.gs y hy).1, Nat.lt_of_lt_of_le (h.gs y hy).2.1 hk.size, (h.gs y hy).2.2⟩ }
section
variable {d : CfD} {tbs : List IltD} {toks : List Int} {bp nb base : Nat} {c : Int → Int → Value → List Value} {RES : PsR Tre} {U W : World} {x : FrM} {fs : List FrM} {a left : Nat} {oa : Option Addr} {oc : Nat} {k : Int} {ks : List Int}
theorem PaP.bad (h : PaP d tbs toks bp nb base c RES U x fs a left oa oc k ks) (hbn : nb < base) (hbb : bp < base) : (∀ b, (Kp base ((x :: fs).map FrM.g) (Value.slice oa (fs.length + 1) oc).ownBlock) b → ¬ (b = bp ∨ b = x.g ∨ (Value.slice oa (fs.length + 1) oc).ownBlock = some b)) ∧ (∀ y ∈ fs, ¬ (y.g = bp ∨ y.g = x.g ∨ (Value.slice oa (fs.length + 1) oc).ownBlock = some y.g)) ∧ (nb ≠ bp → ¬ (nb = bp ∨ nb = x.g ∨ (Value.slice oa (fs.length + 1) oc).ownBlock = some nb)) := by
 have hnd := List.nodup_cons.1 h.nd
 have hgx := h.gs x (List.mem_cons_self ..)
 refine ⟨fun b hb e => ?_, fun y hy e => ?_, fun hn e => ?_⟩
 ·rcases e with e | e | e
  ·have := hb.1; omega
  ·exact hb.2.1 (by rw [e]; exact List.mem_cons_self ..)
  ·exact hb.2.2 e
 ·rcases e with e | e | e
  ·have := (h.gs y (List.mem_cons_of_mem _ hy)).1; omega
  ·exact hnd.1 (by rw [← e]; exact List.mem_map_of_mem hy)
  ·exact (h.gs y (List.mem_cons_of_mem _ hy)).2.2 e
 ·rcases e with e | e | e
  ·exact hn e
  ·have := hgx.1; omega
  ·have := (World.ownsRow.lt h.opn nb e).1; omega
/-- The kid is whole. -/
theorem PaP.whole (h : PaP d tbs toks bp nb base c RES U x fs a left oa oc k ks) (hnb : nb ≠ bp) (hbn : nb < base) (hbb : bp < base) (t : Tre) (htl : t.l = .nil) {j : Nat} (hj : j < 4) (u : Value) (hv : [Value.int .i64 k, .int .i64 0, .int .i64 0, .slice none 0 0].set j u = [.int .i64 t.k, .int .i64 t.i, .int .i64 t.a, .slice none 0 0]) {a' : Nat}
 (hgo : RES = psGo (gOf d tbs toks) 20000 (⟨x.f.k, x.f.i, x.f.l.app (t.con .nil), ks⟩ :: fs.map FrM.f) a' (left - 1)) (ha' : a' ≤ toks.length) (h0 : 0 < left) (hk : KeB (fun b => b = bp ∨ b = x.g ∨ (Value.slice oa (fs.length + 1) oc).ownBlock = some b) U W)
 (hb : Blk W bp 155 (c (a' : Int) (20000 - (left : Int) + 1) (.slice oa (fs.length + 1) oc))) (hn : W.heap[x.g]? = (U.setCell ⟨x.g, x.f.l.len * 4 + j, none⟩ u).heap[x.g]?) (ho : W.ownsRow base 157 1 (.slice oa (fs.length + 1) oc) (fs.length + 1) (ptrs nb (x :: fs))) :
 PaI d tbs toks bp nb base c RES W ⟨⟨x.f.k, x.f.i, x.f.l.app (t.con .nil), ks⟩, x.g, x.c⟩ fs a' (left - 1) oa oc := by
 obtain ⟨hP, hF, hN⟩ := h.bad hbn hbb
 have hup := FrU.upd (W' := W) h.all rfl hj u hk hP (fun y hy => hF y hy) (fun _ => hN hnb) hn
 rw [hv] at hup
 have hlen : (x.f.l.app (t.con .nil)).len = x.f.l.len + 1 := by rw [TrF.app_len]; rfl
 have hcl := FrU.close (t := t) (ga := none) (gc := 0) (by rw [htl]; exact hup) (by rw [htl]; exact TrS.nil _ _) ks
 exact {
  go := hgo
  pla := ha'
  num := by have := h.num; omega
  blk := by rw [show 20000 - ((left - 1 : Nat) : Int) = 20000 - (left : Int) + 1 by omega]; exact hb
  opn := ho
  top := by
   show RowX W _ _ ((x.f.l.app _).len) []
   rw [hlen]
   exact hcl.1
  up := by
   show FrU W _ nb (nodC _ ((x.f.l.app _).len)) fs
   rw [hlen]
   exact hcl.2
  okx := by
   show FrOk d _ ((x.f.l.app _).len)
   rw [hlen]
   exact h.okx
  oky := h.oky
  nd := h.nd
  gs := fun y hy => by
   rcases List.mem_cons.1 hy with rfl | hy
   ·have := h.gs x (List.mem_cons_self ..)
    exact ⟨this.1, Nat.lt_of_lt_of_le this.2.1 hk.size, this.2.2⟩
   ·have := h.gs y (List.mem_cons_of_mem _ hy)
    exact ⟨this.1, Nat.lt_of_lt_of_le this.2.1 hk.size, this.2.2⟩ }
theorem KeB.from_set {bad : Nat → Prop} {w w' : World} (h : KeB bad w w') (p : Addr) (v : Value) (hp : bad p.block) : KeB bad (w.setCell p v) w' := ⟨h.os, h.tape, h.output, by show (w.heap.modify _ _).size ≤ _; rw [Array.size_modify]; exact h.size, fun i hi hn => (h.block i (by have h9 : i < (w.heap.modify p.block _).size := hi; rwa [Array.size_modify] at h9) hn).trans ((KeB.set w p v hp).block i (by have h9 : i < (w.heap.modify p.block _).size := hi; rwa [Array.size_modify] at h9) hn).symm⟩
/-- The kid is open now. -/
theorem PaP.opened (h : PaP d tbs toks bp nb base c RES U x fs a left oa oc k ks) (hnb : nb ≠ bp) (hbn : nb < base) (hbb : bp < base) (h0 : 0 < left) {i g : Nat} {ks2 : List Int} {oa' : Option Addr} {oc' : Nat}
 (hgo : RES = psGo (gOf d tbs toks) 20000 (⟨k, (i : Int), .nil, ks2⟩ :: ⟨x.f.k, x.f.i, x.f.l, ks⟩ :: fs.map FrM.f) a (left - 1)) (hg : U.heap.size ≤ g) (hk : KeB (fun b => b = bp ∨ b = x.g ∨ (Value.slice oa (fs.length + 1) oc).ownBlock = some b) U W)
 (hn : W.heap[x.g]? = ((U.setCell ⟨x.g, x.f.l.len * 4 + 1, none⟩ (.int .i64 (i : Int))).setCell ⟨x.g, x.f.l.len * 4 + 3, none⟩ (.slice (some ⟨g, 0, none⟩) 0 ks2.length)).heap[x.g]?)
 (hb : Blk W bp 155 (c (a : Int) (20000 - (left : Int) + 1) (.slice oa' (fs.length + 1 + 1) oc'))) (ho : W.ownsRow base 157 1 (.slice oa' (fs.length + 1 + 1) oc') (fs.length + 1 + 1) (ptrs nb (x :: fs) ++ [.pointer (some ⟨x.g, x.f.l.len * 4, none⟩)]))
 (hm : W.ownsRow g 51 4 (.slice (some ⟨g, 0, none⟩) 0 ks2.length) 0 []) (hf : ∀ b, (Value.slice oa' (fs.length + 1 + 1) oc').ownBlock = some b → (Value.slice oa (fs.length + 1) oc).ownBlock = some b ∨ U.heap.size ≤ b) (hf2 : (Value.slice oa' (fs.length + 1 + 1) oc').ownBlock ≠ some g) (hkr : -9223372036854775807 ≤ k ∧ k < 0) {ru : IrD} {al : IltD} (hru : d.alts[ruL k]? = some ru) (hal : ru.ds[i]? = some al) (hll : al.l = ks2) (h30 : ks2.length ≤ 30) :
 PaI d tbs toks bp nb base c RES W ⟨⟨k, (i : Int), .nil, ks2⟩, g, ks2.length⟩ ((⟨⟨x.f.k, x.f.i, x.f.l, ks⟩, x.g, x.c⟩ : FrM) :: fs) a (left - 1) oa' oc' := by
 obtain ⟨hP, hF, hN⟩ := h.bad hbn hbb
 have hgx := h.gs x (List.mem_cons_self ..)
 have h2 := h.all.imp (Q := fun b => (Kp base ((x :: fs).map FrM.g) (Value.slice oa (fs.length + 1) oc).ownBlock) b ∧ b < U.heap.size) (fun b hb hlt => ⟨hb, hlt⟩)
 have hP2 : ∀ b, ((Kp base ((x :: fs).map FrM.g) (Value.slice oa (fs.length + 1) oc).ownBlock) b ∧ b < U.heap.size) → ¬ (b = bp ∨ b = x.g ∨ (Value.slice oa (fs.length + 1) oc).ownBlock = some b) := fun b hb => hP b hb.1
 have hU1 : FrU (U.setCell ⟨x.g, x.f.l.len * 4 + 1, none⟩ (.int .i64 (i : Int))) _ nb _ ((⟨⟨x.f.k, x.f.i, x.f.l, ks⟩, x.g, x.c⟩ : FrM) :: fs) := FrU.upd h2 rfl (j := 1) (by omega) (.int .i64 (i : Int)) (KeB.set (bad := fun b => b = bp ∨ b = x.g ∨ (Value.slice oa (fs.length + 1) oc).ownBlock = some b) U ⟨x.g, x.f.l.len * 4 + 1, none⟩ _ (.inr (.inl rfl))) hP2 (fun y hy => hF y hy) (fun _ => hN hnb) rfl
 have hU2 := FrU.upd (W' := W) hU1 rfl (j := 3) (by omega) (.slice (some ⟨g, 0, none⟩) 0 ks2.length) (KeB.from_set hk ⟨x.g, x.f.l.len * 4 + 1, none⟩ (.int .i64 (i : Int)) (.inr (.inl rfl))) hP2 (fun y hy => hF y hy) (fun _ => hN hnb) hn
 have hU3 := hU2.imp (Q := Kp base (g :: (x :: fs).map FrM.g) (Value.slice oa' (fs.length + 1 + 1) oc').ownBlock) (fun b hb _ => ⟨hb.1.1, fun e => by
  rcases List.mem_cons.1 e with e | e
  ·have := hb.2; omega
  ·exact hb.1.2.1 e, fun e => by
  rcases hf b e with e | e
  ·exact hb.1.2.2 e
  ·have := hb.2; omega⟩)
 have hnot : ∀ y ∈ x :: fs, y.g ≠ g := fun y hy e => by have := (h.gs y hy).2.1; omega
 exact {
  go := hgo
  pla := h.pla
  num := by have := h.num; simp only [List.length_cons]; omega
  blk := by rw [show 20000 - ((left - 1 : Nat) : Int) = 20000 - (left : Int) + 1 by omega]; exact hb
  opn := ho
  top := ⟨[], rfl, own_mono hm (Nat.zero_le _)⟩
  up := hU3
  okx := ⟨hkr.1, hkr.2, by show 0 + ks2.length = ks2.length; omega, h30, i, ru, al, rfl, hru, hal, by rw [hll], by rw [hll]; rfl⟩
  oky := fun y hy => by
   rcases List.mem_cons.1 hy with rfl | hy
   ·exact h.okx
   ·exact h.oky y hy
  nd := by
   show (g :: (x :: fs).map FrM.g).Nodup
   refine List.nodup_cons.2 ⟨fun e => ?_, h.nd⟩
   obtain ⟨y, hy, e⟩ := List.mem_map.1 e
   exact hnot y hy e
  gs := fun y hy => by
   rcases List.mem_cons.1 hy with rfl | hy
   ·exact ⟨by show base ≤ g; have := hgx.1; have := hgx.2.1; omega, (World.ownsRow.lt hm g rfl).2, hf2⟩
   ·obtain ⟨z, hz, hzg⟩ : ∃ z ∈ x :: fs, z.g = y.g := by
     rcases List.mem_cons.1 hy with rfl | hy
     ·exact ⟨x, List.mem_cons_self .., rfl⟩
     ·exact ⟨y, List.mem_cons_of_mem _ hy, rfl⟩
    have hz3 := h.gs z hz
    rw [hzg] at hz3
    refine ⟨hz3.1, Nat.lt_of_lt_of_le hz3.2.1 hk.size, fun e => ?_⟩
    rcases hf _ e with e | e
    ·exact hz3.2.2 e
    ·omega }
end
end Go.Proofs.Ytfdhaochnbfndaa
