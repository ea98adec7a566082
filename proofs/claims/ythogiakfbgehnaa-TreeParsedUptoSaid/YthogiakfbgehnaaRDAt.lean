/- Texts joined: Zu Zv Zw Zx Zy Zz Fk Fl Fm Fn Fo Fp Lb Tf. -/
import Derived.Test.YthogiakfbgehnaaRDAs
import Derived.Deep.QuietTactic
import Derived.BigQuiet
import Derived.Test.YthogiakfbgehnaaRDAl
import Derived.Deep.CutRange
import Derived.Defers
import Derived.Recover
import Derived.WalkLawsBesides
import Derived.Test.YthogiakfbgehnaaRDAr
import Derived.Test.YthogiakfbgehnaaRDAk
import Derived.Maps.AppendAt
set_option linter.unusedVariables false
set_option linter.unusedSimpArgs false
namespace Go.Proofs.Ythogiakfbgehnaa
open Go.RowKit Go.Maps
attribute [local go_sem] Oper.semAt_some
theorem alt_some {d : CfD} {tbs : List IltD} {toks : List Int} {r a i : Nat} {ks : List Int} (h : (gOf d tbs toks).alt r a = some (i, ks)) : ∃ (h1 : r < d.alts.length) (h2 : i < (d.alts[r]).ds.length), ks = ((d.alts[r]).ds[i]).l := by
 unfold PsG.alt at h
 cases e : ((gOf d tbs toks).tb.getD r [])[((gOf d tbs toks).next a).toNat]? with
 | none => rw [e] at h; cases h
 | some q =>
  rw [e] at h
  dsimp only at h
  by_cases h0 : 0 ≤ q
  ·rw [if_pos h0] at h
   by_cases hr : r < d.alts.length
   ·have e1 : (gOf d tbs toks).al.getD r [] = (d.alts[r]).p := by
     show (d.alts.map IrD.p).getD r [] = _
     rw [List.getD_eq_getElem?_getD, List.getElem?_map, List.getElem?_eq_getElem hr]
     rfl
    rw [e1] at h
    cases e2 : ((d.alts[r]).p)[q.toNat]? with
    | none => rw [e2] at h; cases h
    | some l =>
     rw [e2] at h
     simp only [Option.map_some, Option.some.injEq, Prod.mk.injEq] at h
     obtain ⟨rfl, rfl⟩ := h
     obtain ⟨h3, h4⟩ := List.getElem?_eq_some_iff.1 e2
     unfold IrD.p at h3 h4
     rw [List.length_map] at h3
     rw [List.getElem_map] at h4
     exact ⟨hr, h3, h4.symm⟩
   ·have e1 : (gOf d tbs toks).al.getD r [] = [] := by
     show (d.alts.map IrD.p).getD r [] = _
     rw [List.getD_eq_getElem?_getD, List.getElem?_eq_none (by rw [List.length_map]; omega)]
     rfl
    rw [e1] at h
    simp at h
  ·rw [if_neg h0] at h
   cases h
theorem seq_at {G : PsG} {f : Int → Nat → Nat → PsR Tre} (hf : ∀ k a n x b m, a ≤ G.toks.length → f k a n = .ok x b m → b ≤ G.toks.length) : ∀ (ks : List Int) (a n : Nat) {l b m}, a ≤ G.toks.length → psSeq f ks a n = .ok l b m → b ≤ G.toks.length
 | [], a, n, l, b, m, ha, h => by
  unfold psSeq at h
  injection h with _ h _
  omega
 | k :: ks, a, n, l, b, m, ha, h => by
  unfold psSeq at h
  cases e : f k a n with
  | bad c e2 => rw [e] at h; cases h
  | ok x c q =>
   rw [e] at h
   have h1 := hf k a n x c q ha e
   change (psSeq f ks c q).bind _ = _ at h
   cases e2 : psSeq f ks c q with
   | bad c e2 => rw [e2] at h; cases h
   | ok l2 c2 q2 =>
    rw [e2] at h
    have h2 := seq_at hf ks c q h1 e2
    change PsR.ok _ _ _ = _ at h
    injection h with _ h _
    omega
theorem put_at (G : PsG) : ∀ (m : Nat) (k : Int) (a n : Nat) {x b q}, a ≤ G.toks.length → psPut G m k a n = .ok x b q → b ≤ G.toks.length
 | 0, k, a, n, x, b, q, ha, h => by unfold psPut at h; cases h
 | m + 1, k, a, n, x, b, q, ha, h => by
  unfold psPut at h
  by_cases hn : n = 0
  ·rw [if_pos hn] at h; cases h
  ·rw [if_neg hn] at h
   by_cases hk : 0 ≤ k
   ·rw [if_pos hk] at h
    by_cases ht : G.toks[a]? = some k
    ·rw [if_pos ht] at h
     injection h with _ h _
     have := (List.getElem?_eq_some_iff.1 ht).1
     omega
    ·rw [if_neg ht] at h; cases h
   ·rw [if_neg hk] at h
    cases e : G.alt (ruL k) a with
    | none => rw [e] at h; cases h
    | some p =>
     rw [e] at h
     obtain ⟨i, ks⟩ := p
     dsimp only at h
     cases e2 : psSeq (psPut G m) ks a (n - 1) with
     | bad c e3 => rw [e2] at h; cases h
     | ok l c q2 =>
      rw [e2] at h
      have h1 := seq_at (G := G) (fun k a n x b _ ha h => put_at G _ k a n ha h) ks a (n - 1) ha e2
      change PsR.ok _ _ _ = _ at h
      injection h with _ h _
      omega
/-- An append of a tree, and where the row lies then. -/
theorem tr_push2 {W : World} {base c : Nat} {a : Option Addr} {n : Nat} {cs : List Value} (h : W.ownsRow base 51 4 (.slice a n c) n cs) (x : TrH) (ga : Option Addr) (m gc : Nat) (ty : TypeId) (hn : n + 1 ≤ 1000000000) (hb : base ≤ W.heap.size) :
 ∃ a' c' w', (Builtin.append_ #[49, 49] ty #[.slice a n c, .slice (some ⟨W.heap.size, 0, none⟩) 1 1]).run Try.prog (W.alloc (.cells #[.int .i64 x.k, .int .i64 x.i, .int .i64 x.a, .slice ga m gc] 51)) = .ok (.slice a' (n + 1) c') w' ∧
  w'.ownsRow base 51 4 (.slice a' (n + 1) c') (n + 1) (cs ++ [.int .i64 x.k, .int .i64 x.i, .int .i64 x.a, .slice ga m gc]) ∧ W.grownBy w' (Value.slice a n c).ownBlock ∧ (∀ g, (Value.slice a' (n + 1) c').ownBlock = some g → (Value.slice a n c).ownBlock = some g ∨ W.heap.size ≤ g) := by
 obtain ⟨i0, hi, hz0, hz1, hz2⟩ := info_parts info_tree
 have hnew : ∀ j u, [Value.int .i64 x.k, .int .i64 x.i, .int .i64 x.a, .slice ga m gc][j]? = some u → (W.alloc (.cells #[.int .i64 x.k, .int .i64 x.i, .int .i64 x.a, .slice ga m gc] 51)).cell? ((⟨W.heap.size, 0, none⟩ : Addr).add j) = some u := by
  intro j u hj
  have := World.alloc_heap_new W (.cells #[.int .i64 x.k, .int .i64 x.i, .int .i64 x.a, .slice ga m gc] 51)
  have e : ((⟨W.heap.size, 0, none⟩ : Addr).add j) = ⟨W.heap.size, j, none⟩ := by simp [Addr.add]; exact Eq.symm
  rw [e]
  unfold World.cell?
  rw [show ((⟨W.heap.size, j, none⟩ : Addr).block) = W.heap.size from rfl, this]
  simp only [Option.bind_some]
  simpa using hj
 obtain ⟨v', w', hrun, ho, hg, _, hw⟩ := run_append_own_at (P := Try.prog) (w := W.alloc (.cells #[.int .i64 x.k, .int .i64 x.i, .int .i64 x.a, .slice ga m gc] 51)) base 49 ty 51 i0 (.agg #[.int .i64 0, .int .i64 0, .int .i64 0, .slice none 0 0]) 4 48 Try.underlying49 hi hz0 hz1 hz2 rfl (by decide) _ _ _ (h.alloc _) ⟨W.heap.size, 0, none⟩ 1 1 [.int .i64 x.k, .int .i64 x.i, .int .i64 x.a, .slice ga m gc] rfl hnew (fun u hu => by
  simp only [List.mem_cons, List.not_mem_nil, or_false] at hu
  rcases hu with rfl | rfl | rfl | rfl <;> rfl) (by unfold maxLen; omega) (by omega) (by simp; omega)
 obtain ⟨a', cap', rfl⟩ := slice_of_own ho
 refine ⟨a', cap', w', hrun, ho, grownBy_trans (World.grownBy_alloc W _ _) hg (fun i e => .inl e), fun g e => ?_⟩
 rcases hw with hw | hw
 ·exact .inl (by rw [← hw]; exact e)
 ·rw [hw] at e
  have := Option.some.inj e
  exact .inr (by rw [← this]; simp)
theorem alt_some2 {d : CfD} {tbs : List IltD} {toks : List Int} {r a i : Nat} {ks : List Int} (h : (gOf d tbs toks).alt r a = some (i, ks)) : ∃ ru al, d.alts[r]? = some ru ∧ ru.ds[i]? = some al ∧ ks = al.l := by
 obtain ⟨h1, h2, h3⟩ := alt_some h
 exact ⟨_, _, List.getElem?_eq_getElem h1, List.getElem?_eq_getElem h2, h3⟩
theorem trs_grown {w w' : World} {P : Nat → Prop} {cap : Nat} {a : Option Addr} {f : TrF} {row : Option Nat} (h : TrS w P a cap f) (hg : w.grownBy w' row) (hr : ∀ g, P g → row ≠ some g) : TrS w' P a cap f :=
 h.kept (fun b off v hb hv => (World.cell?_of_block (a := ⟨b, off, none⟩) (hg.block b (World.block_lt_of_cell? w _ hv) (fun e => hr b hb e.symm))).trans hv)
theorem trcs_grown {w w' : World} {P : Nat → Prop} {f : TrF} {cs : List Value} {row : Option Nat} (h : TrCs w P f cs) (hg : w.grownBy w' row) (hr : ∀ g, P g → row ≠ some g) : TrCs w' P f cs :=
 h.kept (fun b off v hb hv => (World.cell?_of_block (a := ⟨b, off, none⟩) (hg.block b (World.block_lt_of_cell? w _ hv) (fun e => hr b hb e.symm))).trans hv)
theorem seq_cons {f : Int → Nat → Nat → PsR Tre} {k : Int} {ks : List Int} {a n : Nat} : psSeq f (k :: ks) a n = (f k a n).bind fun x a n => (psSeq f ks a n).bind fun l a n => .ok (x.con l) a n := rfl
theorem seq_step {F : Int → Nat → Nat → PsR Tre} {SQ : PsR TrF} {xl : List Int} {j aj lj b q : Nat} {Lf : TrF} {t : Tre} {s : Int} (h : SQ = (psSeq F (xl.drop j) aj lj).bind (fun l b q => .ok (Lf.app l) b q)) (hd : xl.drop j = s :: xl.drop (j + 1)) (hF : F s aj lj = .ok t b q) : SQ = (psSeq F (xl.drop (j + 1)) b q).bind (fun l b q => .ok ((Lf.app (t.con .nil)).app l) b q) := by
 rw [h, hd, seq_cons, hF]
 change ((psSeq F (xl.drop (j + 1)) b q).bind fun l a n => PsR.ok (t.con l) a n).bind _ = _
 rw [psbind_assoc]
 congr 1
 funext l a n
 show PsR.ok (Lf.app (t.con l)) a n = PsR.ok ((Lf.app (t.con .nil)).app l) a n
 rw [TrF.app_assoc]
 rfl
theorem seq_bad {F : Int → Nat → Nat → PsR Tre} {SQ : PsR TrF} {xl : List Int} {j aj lj b : Nat} {Lf : TrF} {x s : Int} (h : SQ = (psSeq F (xl.drop j) aj lj).bind (fun l b q => .ok (Lf.app l) b q)) (hd : xl.drop j = s :: xl.drop (j + 1)) (hF : F s aj lj = .bad b x) : SQ = .bad b x := by
 rw [h, hd, seq_cons, hF]
 rfl
theorem seq_end {F : Int → Nat → Nat → PsR Tre} {SQ : PsR TrF} {xl : List Int} {j aj lj : Nat} {Lf : TrF} (h : SQ = (psSeq F (xl.drop j) aj lj).bind (fun l b q => .ok (Lf.app l) b q)) (hd : xl.length ≤ j) : SQ = .ok Lf aj lj := by
 rw [h, List.drop_eq_nil_of_le hd]
 unfold psSeq
 show PsR.ok (Lf.app .nil) aj lj = _
 rw [TrF.app_nil]
end Go.Proofs.Ythogiakfbgehnaa
namespace Go.Proofs.Ythogiakfbgehnaa
open Go.RowKit Go.Maps
attribute [local go_sem] Oper.semAt_some
set_option maxRecDepth 100000 in
set_option maxHeartbeats 16000000 in
theorem rput_rule (W0 : World) (d : CfD) (ta : Option Addr) (tc : Nat) (tbs : List IltD) (ka : Option Addr) (kc : Nat) (toks : List Int) (hE : PsE W0 d ta tc tbs ka kc toks) (a bp : Nat) (k nd : Int) (w : World) (hW : Below W0.heap.size W0 w) (hbp : W0.heap.size ≤ bp) (hnd : 0 ≤ nd ∧ nd ≤ 20000) (hB : Blk w bp 108 [.slice d.ta d.toks.length d.tc, .slice d.na d.names.length d.nc, .slice d.aa d.alts.length d.ac, .slice ta tbs.length tc, .slice ka toks.length kc, .int .i64 (a : Int), .int .i64 nd, .int .i64 0]) (m left : Nat) (hl : nd + (left : Int) = 20000) (h0 : 0 < left) (hm : left ≤ m + 1) (hk0 : k < 0) (hk1 : -9223372036854775808 ≤ k) (ha : a ≤ toks.length) (hIH : ∀ (k : Int) (a left : Nat) (w : World), -9223372036854775808 ≤ k → k ≤ 9223372036854775807 → left ≤ m → left ≤ 20000 → a ≤ toks.length → Below W0.heap.size W0 w → Blk w bp 108 [.slice d.ta d.toks.length d.tc, .slice d.na d.names.length d.nc, .slice d.aa d.alts.length d.ac, .slice ta tbs.length tc, .slice ka toks.length kc, .int .i64 (a : Int), .int .i64 (20000 - (left : Int)), .int .i64 0] → Calls Try.prog 89 #[.pointer (some ⟨bp, 0, none⟩), .int .i64 k] w (PutQ w bp d ta tc tbs ka kc toks (psPut (gOf d tbs toks) m k a left))) :
 Calls Try.prog 89 #[.pointer (some ⟨bp, 0, none⟩), .int .i64 k] w (PutQ w bp d ta tc tbs ka kc toks (psPut (gOf d tbs toks) (m + 1) k a left)) := by
 obtain ⟨r, hr⟩ : ∃ r : Nat, (r : Int) = -1 - k := ⟨(-1 - k).toNat, by omega⟩
 have hru : ruL k = r := by unfold ruL; omega
 have Hal := Lib.hid (fun W hw hb => ralt_any d ta tc tbs ka kc toks a bp (nd + 1) 0 r W ((hE.grown hw).gd) ((hE.grown hw).gt) ((hE.grown hw).gk) hb hE.nn ha)
 have HFat : Hid (∀ k a n x b q, a ≤ toks.length → psPut (gOf d tbs toks) m k a n = .ok x b q → b ≤ toks.length) := Lib.hid (fun k a n x b q h1 h2 => put_at (gOf d tbs toks) m k a n h1 h2)
 have HFle : Hid (∀ k a n x b q, psPut (gOf d tbs toks) m k a n = .ok x b q → q + 1 ≤ n) := Lib.hid (fun k a n x b q h2 => put_left (gOf d tbs toks) m k a n h2)
 have HR0 : Hid ((gOf d tbs toks).alt r a = none → psPut (gOf d tbs toks) (m + 1) k a left = .bad a 110) := Lib.hid (fun h => by
  rw [psPut, if_neg (by omega), if_neg (by omega), hru, h])
 have HR1 : Hid (∀ i ks, (gOf d tbs toks).alt r a = some (i, ks) → psPut (gOf d tbs toks) (m + 1) k a left = (psSeq (psPut (gOf d tbs toks) m) ks a (left - 1)).bind fun l a n => .ok ⟨k, (i : Int), 0, l⟩ a n) := Lib.hid (fun i ks h => by
  rw [psPut, if_neg (by omega), if_neg (by omega), hru, h])
 obtain ⟨RES, HRS⟩ : ∃ q : PsR Tre, Hid (psPut (gOf d tbs toks) (m + 1) k a left = q) := ⟨_, Lib.hid rfl⟩
 rw [HRS.out] at HR0 HR1 ⊢
 clear HRS hru
 obtain ⟨F, HF⟩ : ∃ q : Int → Nat → Nat → PsR Tre, Hid (psPut (gOf d tbs toks) m = q) := ⟨_, Lib.hid rfl⟩
 rw [HF.out] at HFat HFle HR1 hIH
 have HIH := Lib.hid hIH
 obtain ⟨al, hal⟩ : ∃ q, (gOf d tbs toks).alt r a = q := ⟨_, rfl⟩
 have Hsm : Hid (∀ i ks, al = some (i, ks) → ∃ ru al, d.alts[r]? = some ru ∧ ru.ds[i]? = some al ∧ ks = al.l) := Lib.hid (fun i ks e => alt_some2 (hal.trans e))
 rw [hal] at HR0 HR1 Hal
 clear HF hIH hal
 have hngt : ¬ (20000 : Int) < nd + 1 := by omega
 have hkn : ¬ (0 : Int) ≤ k := by omega
 have hwk : IntKind.i64.wrap (-1 - k) = (r : Int) := by rw [IntWalk.i64_in _ (by omega)]; omega
 have HL9 := Lib.hid hl
 have hleft : left ≤ 20000 := by omega
 clear hr hl
 obtain ⟨Q, hQ⟩ : ∃ Q : Ending → World → Prop, Hid (PutQ w bp d ta tc tbs ka kc toks (RES) = Q) := ⟨_, Lib.hid rfl⟩
 rw [hQ.out]
 have HQB : Hid (∀ W b x (m : Int), RES = .bad b x → x ≠ 0 → w.grownBy W (some bp) → Blk W bp 108 [.slice d.ta d.toks.length d.tc, .slice d.na d.names.length d.nc, .slice d.aa d.alts.length d.ac, .slice ta tbs.length tc, .slice ka toks.length kc, .int .i64 (b : Int), .int .i64 m, .int .i64 x] → Q (.returned (treV ⟨0, 0, 0⟩ none 0 0)) W) := Lib.hid (fun W b x m h0 h3 h1 h2 => by rw [← hQ.out, h0]; exact ⟨h1, h3, rfl, m, h2⟩)
 have HQO : Hid (∀ W (t : Tre) b q ga gc, RES = .ok t b q → w.grownBy W (some bp) → TrS W (fun g => w.heap.size ≤ g) ga gc t.l → Blk W bp 108 [.slice d.ta d.toks.length d.tc, .slice d.na d.names.length d.nc, .slice d.aa d.alts.length d.ac, .slice ta tbs.length tc, .slice ka toks.length kc, .int .i64 (b : Int), .int .i64 (20000 - (q : Int)), .int .i64 0] → Q (.returned (treV ⟨t.k, t.i, t.a⟩ ga t.l.len gc)) W) := Lib.hid (fun W t b q ga gc h0 h1 h3 h2 => by rw [← hQ.out, h0]; exact ⟨h1, ga, gc, rfl, h3, h2⟩)
 clear hQ
 have hkm : toks.length ≤ kc ∧ kc ≤ 9223372036854775807 := ⟨by have := hE.gk.le; rw [List.length_map] at this; exact this, hE.gk.max⟩
 have HE := Lib.hid hE
 clear hE
 have yl := hB.lt
 have hB1 := (hB.set 6 (.int .i64 (nd + 1))).alloc (.cells #[.int .i64 0, .int .i64 0, .int .i64 0, .slice none 0 0] 51)
 have hN1 := Blk.new (w.setCell ⟨bp, 6, none⟩ (.int .i64 (nd + 1))) 51 #[.int .i64 0, .int .i64 0, .int .i64 0, .slice none 0 0]
 have hs1 : (w.setCell ⟨bp, 6, none⟩ (.int .i64 (nd + 1))).heap.size = w.heap.size := Array.size_modify
 have hG1 : w.grownBy ((w.setCell ⟨bp, 6, none⟩ (.int .i64 (nd + 1))).alloc (.cells #[.int .i64 0, .int .i64 0, .int .i64 0, .slice none 0 0] 51)) (some bp) := grownBy_trans (grownBy_set w bp 6 _) (World.grownBy_alloc _ _ (some bp)) (fun i e => .inl e)
 rw [hs1] at hN1
 have hW1 := hW.grown hG1 hW.size (fun i e => by cases e; exact hbp)
 have y6 := hB.cell 6
 have y60 := hB.frozen 6
 simp only [List.getElem?_cons_zero, List.getElem?_cons_succ] at y6
 change Blk _ bp 108 [.slice d.ta d.toks.length d.tc, .slice d.na d.names.length d.nc, .slice d.aa d.alts.length d.ac, .slice ta tbs.length tc, .slice ka toks.length kc, .int .i64 (a : Int), .int .i64 (nd + 1), .int .i64 0] at hB1
 have HB1 := Lib.hid hB1
 have HN1 := Lib.hid hN1
 have HG1 := Lib.hid hG1
 have HW1 := Lib.hid hW1
 have HW := Lib.hid hW
 have HBL := Lib.hid yl
 have hwn : IntKind.i64.wrap (nd + 1) = nd + 1 := IntWalk.i64_in _ (by omega)
 clear hB hB1 hN1 hG1 hW1 hW hs1
 obtain ⟨T, HT⟩ : ∃ q, Hid (d.toks.length = q) := ⟨_, Lib.hid rfl⟩
 obtain ⟨N, HNm⟩ : ∃ q, Hid (d.names.length = q) := ⟨_, Lib.hid rfl⟩
 obtain ⟨L, HL⟩ : ∃ q, Hid (d.alts.length = q) := ⟨_, Lib.hid rfl⟩
 obtain ⟨TB, HTB⟩ : ∃ q, Hid (tbs.length = q) := ⟨_, Lib.hid rfl⟩
 obtain ⟨K, HKK⟩ : ∃ q, Hid (toks.length = q) := ⟨_, Lib.hid rfl⟩
 rw [HT.out, HNm.out, HL.out, HTB.out, HKK.out] at HB1 HQB HQO Hal HIH
 rw [HKK.out] at hkm ha HFat
 go_enter Try.func89, Try.ntmps89
 go_wp2_with (fail)
 obtain ⟨b0, hb0⟩ : ∃ q, Hid (w.heap.size = q) := ⟨_, Lib.hid rfl⟩
 rw [hb0.out] at HN1 HBL ⊢
 generalize hV : World.alloc (World.setCell w _ _) _ = W1 at HB1 HN1 HG1 HW1 ⊢
 clear hV y6 y60 yl
 refine (Hal.out W1 HW1.out HB1.out).mono ?_
 rintro e2 W2 ⟨rfl, hb2⟩
 have HB2 := Lib.hid (HB1.out.below hb2 HB1.out.lt)
 have HN2 := Lib.hid (HN1.out.below hb2 HN1.out.lt)
 have HG2 := Lib.hid (grownBy_trans HG1.out (below_grownBy hb2 (some bp)) (fun i e => .inl e))
 have HW2 := Lib.hid (HW1.out.trans (hb2.mono HW1.out.size))
 have hbL : b0 < W2.heap.size := HN2.out.lt
 clear HB1 HN1 HG1 HW1 hb2 Hal hngt hwn
 rcases al with _ | ⟨i, ks⟩
 ·have HRES := Lib.hid (HR0.out rfl)
  have hi0 : psI none < 0 := by show (-1 : Int) < 0; omega
  clear HR0 HR1 Hsm HQO
  go_wp2_with (fail)
  refine (rfail_any bp _ _ _ _ _ _ _ 0 110 _ HB2.out).mono ?_
  rintro e9 w9 ⟨rfl, hB9, hg9⟩
  have HB9 := Lib.hid hB9
  have HG9 := Lib.hid (grownBy_trans HG2.out hg9 (fun i e => .inl e))
  have HN9 := Lib.hid (HN2.out.kept hg9 (by have := HBL.out; intro e; injection e with e; omega))
  clear hB9 hg9
  have n0 := HN9.out.cell 0
  have n1 := HN9.out.cell 1
  have n2 := HN9.out.cell 2
  have n3 := HN9.out.cell 3
  have m0 := HN9.out.frozen 0
  have m1 := HN9.out.frozen 1
  have m2 := HN9.out.frozen 2
  have m3 := HN9.out.frozen 3
  have nl := HN9.out.lt
  simp only [List.getElem?_cons_zero, List.getElem?_cons_succ] at n0 n1 n2 n3
  go_wp2_with (fail)
  have HX := blk_put4 HN9.out (.int .i64 0) (.int .i64 0) (.int .i64 0) (.slice none 0 0)
  have HF := HQB.out _ a 110 (nd + 1) HRES.out (by decide) (grown_put4 HG9.out (by rw [hb0.out]; exact Nat.le_refl _) (.int .i64 0) (.int .i64 0) (.int .i64 0) (.slice none 0 0)) (blk_oth4 HB9.out (by have := HBL.out; omega) (.int .i64 0) (.int .i64 0) (.int .i64 0) (.slice none 0 0))
  exact bodyPost_ret (v := treV ⟨0, 0, 0⟩ none 0 0) (results_cell_row (p := 4) (ty := 51) rfl _ _ b0 51 #[.int .i64 0, .int .i64 0, .int .i64 0, .slice none 0 0] (0, 0) _ rfl HX Try.underlying51 rfl (by kernel_rfl)) rfl HF
 ·have HRES := Lib.hid (HR1.out i ks rfl)
  obtain ⟨ru, al, e1, e2, hks⟩ := Hsm.out i ks rfl
  subst hks
  obtain ⟨h1, e1⟩ := List.getElem?_eq_some_iff.1 e1
  obtain ⟨h2, e2⟩ := List.getElem?_eq_some_iff.1 e2
  obtain ⟨p, po, hp⟩ := HE.out.gd.alts.at_ r (by rw [List.length_map]; exact h1)
  have cp := HE.out.gd.alts.cell p po hp r (by rw [List.length_map]; exact h1)
  rw [List.getElem_map, e1] at cp
  have hR := HE.out.gd.rules ru (by rw [← e1]; exact List.getElem_mem h1)
  obtain ⟨q, qo, hq⟩ := hR.row.at_ i (by rw [List.length_map]; exact h2)
  have cq := hR.row.cell q qo hq i (by rw [List.length_map]; exact h2)
  rw [List.getElem_map, e2] at cq
  have hI := hR.nms al (by rw [← e2]; exact List.getElem_mem h2)
  have hrn := HE.out.rng ru (by rw [← e1]; exact List.getElem_mem h1) al (by rw [← e2]; exact List.getElem_mem h2)
  have hrm : ru.ds.length ≤ ru.c ∧ ru.c ≤ 9223372036854775807 := ⟨by have := hR.row.le; rwa [List.length_map] at this, hR.row.max⟩
  have hlm : d.alts.length ≤ d.ac ∧ d.ac ≤ 9223372036854775807 := ⟨by have := HE.out.gd.alts.le; rwa [List.length_map] at this, HE.out.gd.alts.max⟩
  rw [HL.out] at h1 hlm
  clear hR e1 e2 HR0 HR1 Hsm
  obtain ⟨rds, ra, rc⟩ := ru
  obtain ⟨xl, xa, xc⟩ := al
  dsimp only at *
  have hxm : xl.length ≤ xc ∧ xc ≤ 9223372036854775807 := ⟨by have := hI.le; rwa [List.length_map] at this, hI.max⟩
  have HI := Lib.hid hI
  have HRN := Lib.hid hrn
  obtain ⟨M, hM⟩ : ∃ q, Hid (xl.length = q) := ⟨_, Lib.hid rfl⟩
  obtain ⟨RL, hRL⟩ : ∃ q, Hid (rds.length = q) := ⟨_, Lib.hid rfl⟩
  change _ = some (Value.slice ra rds.length rc) at cp
  change _ = some (Value.slice xa xl.length xc) at cq
  rw [hRL.out] at cp hrm h2
  rw [hM.out] at cq hxm
  have cp2 := (HW2.out.cell (p := ⟨p, po + r, none⟩) (World.block_lt_of_cell? _ _ cp)).trans cp
  have cq2 := (HW2.out.cell (p := ⟨q, qo + i, none⟩) (World.block_lt_of_cell? _ _ cq)).trans cq
  have pl := World.block_lt_of_cell? _ _ cp2
  have ql := World.block_lt_of_cell? _ _ cq2
  dsimp only at pl ql
  clear hI hrn cp cq
  obtain ⟨SQ, HSQ⟩ : ∃ q : PsR TrF, Hid (psSeq F xl a (left - 1) = q) := ⟨_, Lib.hid rfl⟩
  rw [HSQ.out] at HRES
  have hpi : psI (some (i, xl)) = (i : Int) := rfl
  rw [hpi]
  have hi0 : ¬ (i : Int) < 0 := by omega
  have hi1 : (0 : Int) ≤ (i : Int) := by omega
  have hi2 : (i : Int) < (RL : Int) := by omega
  have hr0 : (0 : Int) ≤ (r : Int) := by omega
  have hr1 : (r : Int) < (L : Int) := by omega
  have y2 := HB2.out.cell 2
  have yl := HB2.out.lt
  simp only [List.getElem?_cons_zero, List.getElem?_cons_succ] at y2
  rw [hp] at y2
  subst hq
  clear hpi hp
  go_wp2_with (fail)
  obtain ⟨b6, hb6⟩ : ∃ q, Hid (W2.heap.size = q) := ⟨_, Lib.hid rfl⟩
  have HB3 := Lib.hid (HB2.out.alloc (.cells #[.int .i64 k, .int .i64 (i : Int), .int .i64 0, .slice none 0 0] 51))
  have HN3 := Lib.hid (HN2.out.alloc (.cells #[.int .i64 k, .int .i64 (i : Int), .int .i64 0, .slice none 0 0] 51))
  have HX3 := Lib.hid (Blk.new W2 51 #[.int .i64 k, .int .i64 (i : Int), .int .i64 0, .slice none 0 0])
  have HG3 := Lib.hid (grownBy_trans HG2.out (World.grownBy_alloc W2 (.cells #[.int .i64 k, .int .i64 (i : Int), .int .i64 0, .slice none 0 0] 51) (some bp)) (fun i e => .inl e))
  have HW3 := Lib.hid (HW2.out.alloc HW2.out.size (.cells #[.int .i64 k, .int .i64 (i : Int), .int .i64 0, .slice none 0 0] 51))
  rw [hb6.out] at HX3 hbL ⊢
  generalize hV : World.alloc W2 _ = W3 at HB3 HN3 HX3 HG3 HW3 ⊢
  clear hV y2 yl cp2 cq2 pl ql HB2 HN2 HG2 HW2
  obtain ⟨base, hbase⟩ : ∃ q, Hid (W3.heap.size = q) := ⟨_, Lib.hid rfl⟩
  have hb6b : b6 < base := by rw [← hbase.out]; exact HX3.out.lt
  have hbase0 : base ≤ W3.heap.size := by rw [hbase.out]; exact Nat.le_refl _
  go_loopw [8, 9, 90] (fun _ _ iv wr => ∃ (j : Nat) (ga : Option Addr) (gc : Nat) (Lf : TrF) (cs : List Value) (aj lj : Nat), j ≤ M ∧ iv = .int .i64 (j : Int) ∧ Hid (SQ = (psSeq F (xl.drop j) aj lj).bind (fun l b q => .ok (Lf.app l) b q)) ∧ Hid (Lf.len = j) ∧ aj ≤ K ∧ lj + j + 1 ≤ left ∧ Hid (Blk wr bp 108 [.slice d.ta T d.tc, .slice d.na N d.nc, .slice d.aa L d.ac, .slice ta TB tc, .slice ka K kc, .int .i64 (aj : Int), .int .i64 (20000 - (lj : Int)), .int .i64 0]) ∧ Hid (Blk wr b6 51 [.int .i64 k, .int .i64 (i : Int), .int .i64 0, .slice ga j gc]) ∧ Hid (Blk wr b0 51 [.int .i64 0, .int .i64 0, .int .i64 0, .slice none 0 0]) ∧ Hid (wr.ownsRow base 51 4 (.slice ga j gc) j cs) ∧ Hid (TrCs wr (fun g => base ≤ g ∧ (Value.slice ga j gc).ownBlock ≠ some g) Lf cs) ∧ Hid (w.grownBy wr (some bp)) ∧ Hid (Below W0.heap.size W0 wr) ∧ base ≤ wr.heap.size) (fun _ _ iv _ => M - (RowKit.intOf iv).toNat)
  case atStart => exact ⟨0, none, 0, .nil, [], a, left - 1, Nat.zero_le _, rfl, Lib.hid (by rw [← HSQ.out, List.drop_zero]; show _ = (psSeq F xl a (left - 1)).bind (fun l b q => PsR.ok l b q); cases psSeq F xl a (left - 1) <;> rfl), Lib.hid rfl, ha, by omega, Lib.hid (by have h := HB3.out; have hl := HL9.out; rw [show nd + 1 = 20000 - ((left - 1 : Nat) : Int) by omega] at h; exact h), HX3, HN3, Lib.hid (World.ownsRow_nil _ _ _ 4), Lib.hid rfl, HG3, HW3, hbase0⟩
  case round =>
   clear HB3 HN3 HX3 HG3 HW3 hbase0 hbase
   obtain ⟨j, ga, gc, Lf, cs, aj, lj, hj, rfl, HSJ, HLj, haj, hlj, HB, HX, HN, HO, HC, HG, HW9, hbs⟩ := hrel
   obtain ⟨U, rfl⟩ : ∃ U, U = wr := ⟨_, rfl⟩
   by_cases hlt : j < M
   ·have hjI : (j : Int) < (M : Int) := by omega
    have hjI0 : (0 : Int) ≤ (j : Int) := by omega
    have hjx : j < xl.length := by rw [hM.out]; exact hlt
    obtain ⟨x, xo, hx⟩ := HI.out.at_ j (by rw [List.length_map]; exact hjx)
    have cx := (HI.out.grown HW9.out).cell x xo hx j (by rw [List.length_map]; exact hjx)
    rw [List.getElem_map] at cx
    have hdr : Hid (xl.drop j = xl[j]'hjx :: xl.drop (j + 1)) := Lib.hid (List.drop_eq_getElem_cons hjx)
    have hsr := HRN.out (xl[j]'hjx) (List.getElem_mem hjx)
    obtain ⟨s, hs⟩ : ∃ q, Hid (xl[j]'hjx = q) := ⟨_, Lib.hid rfl⟩
    rw [hs.out] at cx hdr hsr
    have xbl := World.block_lt_of_cell? _ _ cx
    subst hx
    have Hc := Lib.hid (HIH.out s aj lj U hsr.1 hsr.2 (by omega) (by omega) haj HW9.out HB.out)
    go_wp2_with (fail)
    refine Hc.out.mono ?_
    intro e4 w4 hQ4
    unfold PutQ at hQ4
    cases hFs : F s aj lj with
    | bad b x9 =>
     rw [hFs] at hQ4
     obtain ⟨hg4, hx9, rfl, m4, hB4⟩ := hQ4
     rw [HT.out, HNm.out, HL.out, HTB.out, HKK.out] at hB4
     have HB4 := Lib.hid hB4
     have HRB : Hid (RES = .bad b x9) := Lib.hid (by rw [HRES.out, seq_bad HSJ.out hdr.out hFs]; rfl)
     have HN4 := Lib.hid (HN.out.kept hg4 (by have := HBL.out; intro e; injection e with e; omega))
     have HG4 := Lib.hid (grownBy_trans HG.out hg4 (fun i e => .inl e))
     have heb : (x9 != 0) = true := by simp [hx9]
     have HX9n := Lib.hid hx9
     clear hx9
     clear hFs hB4 hg4 cx xbl Hc
     have n0 := HN4.out.cell 0
     have n1 := HN4.out.cell 1
     have n2 := HN4.out.cell 2
     have n3 := HN4.out.cell 3
     have m0 := HN4.out.frozen 0
     have m1 := HN4.out.frozen 1
     have m2 := HN4.out.frozen 2
     have m3 := HN4.out.frozen 3
     have nl := HN4.out.lt
     have y7 := HB4.out.cell 7
     have yl := HB4.out.lt
     simp only [List.getElem?_cons_zero, List.getElem?_cons_succ] at n0 n1 n2 n3 y7
     go_wp2_with (fail)
     have HX9 := (blk_put4 HN4.out (.int .i64 0) (.int .i64 0) (.int .i64 0) (.slice none 0 0)).alloc (.cells #[.int .i64 0, .int .i64 0, .int .i64 0, .slice none 0 0] 51)
     have HF := HQB.out _ b x9 m4 HRB.out HX9n.out (grownBy_trans (grown_put4 HG4.out (by rw [hb0.out]; exact Nat.le_refl _) (.int .i64 0) (.int .i64 0) (.int .i64 0) (.slice none 0 0)) (World.grownBy_alloc _ (.cells #[.int .i64 0, .int .i64 0, .int .i64 0, .slice none 0 0] 51) (some bp)) (fun i e => .inl e)) ((blk_oth4 HB4.out (by have := HBL.out; omega) (.int .i64 0) (.int .i64 0) (.int .i64 0) (.slice none 0 0)).alloc (.cells #[.int .i64 0, .int .i64 0, .int .i64 0, .slice none 0 0] 51))
     exact bodyPost_ret (v := treV ⟨0, 0, 0⟩ none 0 0) (results_cell_row (p := 4) (ty := 51) rfl _ _ b0 51 #[.int .i64 0, .int .i64 0, .int .i64 0, .slice none 0 0] (0, 0) _ rfl HX9 Try.underlying51 rfl (by kernel_rfl)) rfl HF
    | ok t b q9 =>
     rw [hFs] at hQ4
     obtain ⟨hg4, ga4, gc4, rfl, hT4, hB4⟩ := hQ4
     obtain ⟨tk, ti, tA, tl⟩ := t
     dsimp only at hT4 ⊢
     rw [HT.out, HNm.out, HL.out, HTB.out, HKK.out] at hB4
     have HB4 := Lib.hid hB4
     have HT4 := Lib.hid hT4
     have HSN := Lib.hid (seq_step HSJ.out hdr.out hFs)
     have hb4 : b ≤ K := HFat.out _ _ _ _ _ _ haj hFs
     have hq4 : q9 + 1 ≤ lj := HFle.out _ _ _ _ _ _ hFs
     have HN4 := Lib.hid (HN.out.kept hg4 (by have := HBL.out; intro e; injection e with e; omega))
     have HX4 := Lib.hid (HX.out.kept hg4 (by have := HBL.out; intro e; injection e with e; omega))
     have hownb : ∀ g, (Value.slice ga j gc).ownBlock = some g → base ≤ g ∧ g < U.heap.size := World.ownsRow.lt HO.out
     have HO4 := Lib.hid (World.ownsRow.kept HO.out hg4 (.inr (fun e => by have := (hownb _ e).1; have := HBL.out; omega)))
     have HC4 := Lib.hid (trcs_grown HC.out hg4 (fun g h e => by injection e with e; have := h.1; have := HBL.out; omega))
     have HG4 := Lib.hid (grownBy_trans HG.out hg4 (fun i e => .inl e))
     have HW4 := Lib.hid (HW9.out.grown hg4 HW9.out.size (fun i e => by cases e; exact hbp))
     have hbs4 : base ≤ w4.heap.size := Nat.le_trans hbs hg4.size
     have hUs4 : U.heap.size ≤ w4.heap.size := hg4.size
     obtain ⟨tn, htn⟩ : ∃ q, Hid (tl.len = q) := ⟨_, Lib.hid rfl⟩
     rw [htn.out]
     obtain ⟨ga6, gc6, w6, hrun, ho6, hg6, hfr6⟩ := tr_push2 (World.ownsRow.alloc HO4.out (.cells #[.int .i64 tk, .int .i64 ti, .int .i64 tA, .slice ga4 tn gc4] 51)) ⟨tk, ti, tA⟩ ga4 tn gc4 49 (by omega) (by rw [World.size_alloc]; omega)
     have HG5 := Lib.hid (World.grownBy_alloc w4 (.cells #[.int .i64 tk, .int .i64 ti, .int .i64 tA, .slice ga4 tn gc4] 51) none)
     have hs5 : (w4.alloc (.cells #[.int .i64 tk, .int .i64 ti, .int .i64 tA, .slice ga4 tn gc4] 51)).heap.size = w4.heap.size + 1 := World.size_alloc _ _
     have HB6 := Lib.hid ((HB4.out.alloc (.cells #[.int .i64 tk, .int .i64 ti, .int .i64 tA, .slice ga4 tn gc4] 51)).kept hg6 (fun e => by have := (hownb _ e.symm).1; have := HBL.out; omega))
     have HN6 := Lib.hid ((HN4.out.alloc (.cells #[.int .i64 tk, .int .i64 ti, .int .i64 tA, .slice ga4 tn gc4] 51)).kept hg6 (fun e => by have := (hownb _ e.symm).1; have := HBL.out; omega))
     have HX6 := Lib.hid ((HX4.out.alloc (.cells #[.int .i64 tk, .int .i64 ti, .int .i64 tA, .slice ga4 tn gc4] 51)).kept hg6 (fun e => by have := (hownb _ e.symm).1; have := HBL.out; omega))
     have HO6 := Lib.hid ho6
     have HG6 := Lib.hid hg6
     have HF6 := Lib.hid hfr6
     have HOB := Lib.hid hownb
     have HS5 := Lib.hid hs5
     rw [World.size_alloc] at hrun
     have q3 := HX4.out.cell 3
     have ql := HX4.out.lt
     have r3 := HX6.out.cell 3
     have rf3 := HX6.out.frozen 3
     have rl := HX6.out.lt
     have y7 := HB4.out.cell 7
     have yl := HB4.out.lt
     simp only [List.getElem?_cons_zero, List.getElem?_cons_succ] at q3 r3 y7
     clear hFs hB4 hT4 hg4 cx xbl Hc hownb ho6 hg6 hfr6 hs5
     have Hrun := Lib.hid hrun
     clear hrun
     go_wp2_with (at_builtin; refine wpList_append_run rfl _ _ 49 49 rfl _ _ _ _ rfl rfl Hrun.out ?_)
     go_roundw
     case rel =>
      have HWS : w6.grownBy (w6.setCell ⟨b6, 3, none⟩ (.slice ga6 (j + 1) gc6)) (some b6) := grownBy_set w6 b6 3 _
      have hl6 : ∀ g, (Value.slice ga6 (j + 1) gc6).ownBlock = some g → base ≤ g ∧ g < w6.heap.size := World.ownsRow.lt HO6.out
      have hb06 : b0 < b6 := hbL
      have c5 := trcs_grown HC4.out HG5.out (fun g h e => by cases e)
      have hPP : ∀ g, (base ≤ g ∧ (Value.slice ga j gc).ownBlock ≠ some g) → g < w4.heap.size + 1 → base ≤ g ∧ (Value.slice ga6 (j + 1) gc6).ownBlock ≠ some g := fun g h hlt => ⟨h.1, fun e => by
       rcases HF6.out g e with e2 | e2
       ·exact h.2 e2
       ·have := HS5.out; omega⟩
      have c5b := c5.imp (Q := fun g => (base ≤ g ∧ (Value.slice ga j gc).ownBlock ≠ some g) ∧ (base ≤ g ∧ (Value.slice ga6 (j + 1) gc6).ownBlock ≠ some g)) (fun g h hlt => ⟨h, hPP g h (by have := HS5.out; omega)⟩)
      have c6 := (trcs_grown c5b HG6.out (fun g h e => h.1.2 e)).imp (Q := fun g => base ≤ g ∧ (Value.slice ga6 (j + 1) gc6).ownBlock ≠ some g) (fun g h _ => h.2)
      have c7 := trcs_grown c6 HWS (fun g h e => by injection e with e; have := h.1; omega)
      have k5 := trs_grown HT4.out HG5.out (fun g h e => by cases e)
      have k5b := k5.imp (Q := fun g => (base ≤ g ∧ (Value.slice ga j gc).ownBlock ≠ some g) ∧ (base ≤ g ∧ (Value.slice ga6 (j + 1) gc6).ownBlock ≠ some g)) (fun g h hlt => by
       have h9 : base ≤ g ∧ (Value.slice ga j gc).ownBlock ≠ some g := ⟨by omega, fun e => by have := (HOB.out g e).2; omega⟩
       exact ⟨h9, hPP g h9 (by have := HS5.out; omega)⟩)
      have k6 := (trs_grown k5b HG6.out (fun g h e => h.1.2 e)).imp (Q := fun g => base ≤ g ∧ (Value.slice ga6 (j + 1) gc6).ownBlock ≠ some g) (fun g h _ => h.2)
      have k7 := trs_grown k6 HWS (fun g h e => by injection e with e; have := h.1; omega)
      have o7 := World.ownsRow.kept HO6.out HWS (.inr (fun e => by have := (hl6 _ e).1; omega))
      have hwb : w.heap.size ≤ b6 := by have := hb0.out; omega
      have one7 := TrCs.one (h := ⟨tk, ti, tA⟩) k7
      rw [htn.out] at one7
      refine ⟨j + 1, ga6, gc6, Lf.app (.cons ⟨tk, ti, tA⟩ tl .nil), cs ++ [.int .i64 tk, .int .i64 ti, .int .i64 tA, .slice ga4 tn gc4], b, q9, by omega, by go_num, HSN, Lib.hid (by rw [TrF.app_len, HLj.out]; rfl), hb4, by omega, Lib.hid (HB6.out.setOther (b' := b6) (j := 3) (by have := HBL.out; omega) (.slice ga6 (j + 1) gc6)), Lib.hid (HX6.out.set 3 (.slice ga6 (j + 1) gc6)), Lib.hid (HN6.out.setOther (b' := b6) (j := 3) (by omega) (.slice ga6 (j + 1) gc6)), Lib.hid o7, Lib.hid (c7.app one7), Lib.hid ?_, Lib.hid ?_, ?_⟩
      ·refine grownBy_trans (grownBy_trans (grownBy_trans HG4.out (grownBy_none HG5.out (some bp)) (fun i e => .inl e)) HG6.out (fun i e => .inr ?_)) HWS (fun i e => .inr ?_)
       ·have := (HOB.out i e).1; omega
       ·injection e with e; omega
      ·refine ((HW4.out.grown HG5.out HW4.out.size (fun i e => by cases e)).grown HG6.out ?_ (fun i e => ?_)).grown HWS ?_ (fun i e => ?_)
       ·have := HW4.out.size; have := HS5.out; omega
       ·have := (HOB.out i e).1; have := HBL.out; omega
       ·have := HW4.out.size; have := HS5.out; have := HG6.out.size; omega
       ·injection e with e; have := HBL.out; omega
      ·have := HS5.out; have := HG6.out.size; have := HWS.size; omega
     case measure => simp [RowKit.intOf]; omega
   ·have hjM : j = M := by omega
    have HSE := Lib.hid (seq_end HSJ.out (by rw [hM.out]; omega))
    have HRK : Hid (RES = .ok ⟨k, (i : Int), 0, Lf⟩ aj lj) := Lib.hid (by rw [HRES.out, HSE.out]; rfl)
    have hT0 : TrS U (fun g => base ≤ g) ga gc Lf := row_trs (by rw [HLj.out]; exact HO.out) (HC.out.imp (fun g h _ => h.1)) (fun g o _ h => h)
    have hGP : U.grownBy ((((U.setCell ⟨b0, 0, none⟩ (.int .i64 k)).setCell ⟨b0, 1, none⟩ (.int .i64 (i : Int))).setCell ⟨b0, 2, none⟩ (.int .i64 0)).setCell ⟨b0, 3, none⟩ (.slice ga j gc)) (some b0) := grownBy_trans (grownBy_trans (grownBy_trans (grownBy_set U b0 0 _) (grownBy_set _ b0 1 _) (fun i e => .inl e)) (grownBy_set _ b0 2 _) (fun i e => .inl e)) (grownBy_set _ b0 3 _) (fun i e => .inl e)
    have HT9 := Lib.hid ((trs_grown hT0 hGP (fun g h e => by injection e with e; have : b0 < b6 := hbL; omega)).imp (Q := fun g => w.heap.size ≤ g) (fun g h _ => by have := hb0.out; have : b0 < b6 := hbL; omega))
    have n0 := HN.out.cell 0
    have n1 := HN.out.cell 1
    have n2 := HN.out.cell 2
    have n3 := HN.out.cell 3
    have m0 := HN.out.frozen 0
    have m1 := HN.out.frozen 1
    have m2 := HN.out.frozen 2
    have m3 := HN.out.frozen 3
    have nl := HN.out.lt
    have x0 := HX.out.cell 0
    have x1 := HX.out.cell 1
    have x2 := HX.out.cell 2
    have x3 := HX.out.cell 3
    have xl9 := HX.out.lt
    simp only [List.getElem?_cons_zero, List.getElem?_cons_succ] at n0 n1 n2 n3 x0 x1 x2 x3
    have hjn : ¬ (j : Int) < (M : Int) := by omega
    clear hT0 hGP hjM
    go_wp2_with (fail)
    have HX9 := blk_put4 HN.out (.int .i64 k) (.int .i64 (i : Int)) (.int .i64 0) (.slice ga j gc)
    have HF := HQO.out _ ⟨k, (i : Int), 0, Lf⟩ aj lj ga gc HRK.out (grown_put4 HG.out (by rw [hb0.out]; exact Nat.le_refl _) (.int .i64 k) (.int .i64 (i : Int)) (.int .i64 0) (.slice ga j gc)) HT9.out (blk_oth4 HB.out (by have := HBL.out; omega) (.int .i64 k) (.int .i64 (i : Int)) (.int .i64 0) (.slice ga j gc))
    dsimp only at HF
    rw [HLj.out] at HF
    exact bodyPost_ret (v := treV ⟨k, (i : Int), 0⟩ ga j gc) (results_cell_row (p := 4) (ty := 51) rfl _ _ b0 51 #[.int .i64 k, .int .i64 (i : Int), .int .i64 0, .slice ga j gc] (0, 0) _ rfl HX9 Try.underlying51 rfl (by kernel_rfl)) rfl HF
end Go.Proofs.Ythogiakfbgehnaa
namespace Go.Proofs.Ythogiakfbgehnaa
open Go.RowKit Go.Maps
attribute [local go_sem] Oper.semAt_some
/-- What the program parses by. -/
structure PrE (W0 : World) (d : CfD) (ta : Option Addr) (tc : Nat) (tbs : List IltD) (ka : Option Addr) (kc : Nat) (toks : List Int) : Prop where
 ge : PsE W0 d ta tc tbs ka kc toks
 trg : ∀ t ∈ tbs, ∀ x ∈ t.l, -9223372036854775808 ≤ x ∧ x ≤ 9223372036854775807
 srg : ∀ r ∈ d.alts, ∀ a ∈ r.ds, a.l.length ≤ 30 ∧ ∀ x ∈ a.l, -9223372036854775807 ≤ x
 krg : ∀ x ∈ toks, x ≤ 9223372036854775807
theorem PrE.grown {W0 W1 : World} {d : CfD} {ta ka : Option Addr} {tc kc : Nat} {tbs : List IltD} {toks : List Int} (h : PrE W0 d ta tc tbs ka kc toks) (hb : Below W0.heap.size W0 W1) : PrE W1 d ta tc tbs ka kc toks := ⟨h.ge.grown hb, h.trg, h.srg, h.krg⟩
/-- The world has grown, but for these blocks. -/
structure KeB (bad : Nat → Prop) (w w' : World) : Prop where
 os : w'.os = w.os
 tape : w'.tape = w.tape
 output : w'.output = w.output
 size : w.heap.size ≤ w'.heap.size
 block : ∀ k, k < w.heap.size → ¬ bad k → w'.heap[k]? = w.heap[k]?
theorem KeB.of (bad : Nat → Prop) {w w' : World} (h : Below w.heap.size w w') : KeB bad w w' := ⟨h.os, h.tape, h.output, h.size, fun k hk _ => h.block k hk⟩
theorem KeB.trans {bad : Nat → Prop} {a b c : World} (h : KeB bad a b) (k : KeB bad b c) : KeB bad a c := ⟨k.os.trans h.os, k.tape.trans h.tape, k.output.trans h.output, Nat.le_trans h.size k.size, fun i hi hn => (k.block i (Nat.lt_of_lt_of_le hi h.size) hn).trans (h.block i hi hn)⟩
theorem KeB.set {bad : Nat → Prop} (w : World) (p : Addr) (v : Value) (h : bad p.block) : KeB bad w (w.setCell p v) := ⟨rfl, rfl, rfl, by show _ ≤ (w.heap.modify _ _).size; rw [Array.size_modify]; exact Nat.le_refl _, fun k _ hn => by
 show (w.heap.modify _ _)[k]? = _
 rw [Array.getElem?_modify]
 rw [if_neg (fun e => hn (by rw [← e]; exact h))]⟩
theorem KeB.alloc (bad : Nat → Prop) (w : World) (o : Obj) : KeB bad w (w.alloc o) := KeB.of bad ((Below.refl _ w).alloc (Nat.le_refl _) o)
theorem KeB.gr {bad : Nat → Prop} {w w' : World} {r : Option Nat} (h : w.grownBy w' r) (hr : ∀ i, r = some i → bad i) : KeB bad w w' := ⟨h.os, h.tape, h.output, h.size, fun k hk hn => h.block k hk (fun e => hn (hr k e.symm))⟩
theorem KeB.mono {bad bad' : Nat → Prop} {w w' : World} (h : KeB bad w w') (hm : ∀ k, bad k → bad' k) : KeB bad' w w' := ⟨h.os, h.tape, h.output, h.size, fun k hk hn => h.block k hk (fun e => hn (hm k e))⟩
theorem KeB.below {bad : Nat → Prop} {B : Nat} {w w' : World} (h : KeB bad w w') (hB : B ≤ w.heap.size) (hb : ∀ k, bad k → B ≤ k) : Below B w w' := ⟨h.os, h.tape, h.output, h.size, fun k hk => h.block k (by omega) (fun e => by have := hb k e; omega)⟩
end Go.Proofs.Ythogiakfbgehnaa
namespace Go.Proofs.Ythogiakfbgehnaa
open Go.RowKit Go.Maps
attribute [local go_sem] Oper.semAt_some
end Go.Proofs.Ythogiakfbgehnaa
namespace Go.Proofs.Ythogiakfbgehnaa
open Go.RowKit Go.Maps
attribute [local go_sem] Oper.semAt_some
end Go.Proofs.Ythogiakfbgehnaa
namespace Go.Proofs.Ythogiakfbgehnaa
open Go.RowKit Go.Maps
attribute [local go_sem] Oper.semAt_some
theorem keb_cell {bad : Nat → Prop} {W W' : World} (hk : KeB bad W W') {b off : Nat} {v : Value} (hn : ¬ bad b) (h : W.cell? ⟨b, off, none⟩ = some v) : W'.cell? ⟨b, off, none⟩ = some v :=
 (World.cell?_of_block (a := ⟨b, off, none⟩) (hk.block b (World.block_lt_of_cell? W _ h) hn)).trans h
theorem trs_keb {w w' : World} {P bad : Nat → Prop} {cap : Nat} {a : Option Addr} {f : TrF} (h : TrS w P a cap f) (hk : KeB bad w w') (hn : ∀ b, P b → ¬ bad b) : TrS w' P a cap f := h.kept (fun _ _ _ hb hv => keb_cell hk (hn _ hb) hv)
end Go.Proofs.Ythogiakfbgehnaa
namespace Go.Proofs.Ythogiakfbgehnaa
open Go.RowKit Go.Maps
attribute [local go_sem] Oper.semAt_some
end Go.Proofs.Ythogiakfbgehnaa
namespace Go.Proofs.Ythogiakfbgehnaa
open Go.RowKit Go.Maps
attribute [local go_sem] Oper.semAt_some
end Go.Proofs.Ythogiakfbgehnaa
namespace Go.Proofs.Ythogiakfbgehnaa
open Go.RowKit Go.Maps
attribute [local go_sem] Oper.semAt_some
theorem KeB.step {bad bad' : Nat → Prop} {w U W : World} (h : KeB bad w U) (k : KeB bad' U W) (hb : ∀ b, bad' b → bad b ∨ w.heap.size ≤ b) : KeB bad w W :=
 ⟨k.os.trans h.os, k.tape.trans h.tape, k.output.trans h.output, Nat.le_trans h.size k.size, fun i hi hn => (k.block i (Nat.lt_of_lt_of_le hi h.size) (fun e => by rcases hb i e with e | e; exact hn e; omega)).trans (h.block i hi hn)⟩
theorem keb_set4 {bad : Nat → Prop} (W : World) (g L : Nat) (h : bad g) (v0 v1 v2 v3 : Value) : KeB bad W ((((W.setCell ⟨g, L, none⟩ v0).setCell ⟨g, L + 1, none⟩ v1).setCell ⟨g, L + 2, none⟩ v2).setCell ⟨g, L + 3, none⟩ v3) :=
 (((KeB.set W ⟨g, L, none⟩ v0 h).trans (KeB.set _ ⟨g, L + 1, none⟩ v1 h)).trans (KeB.set _ ⟨g, L + 2, none⟩ v2 h)).trans (KeB.set _ ⟨g, L + 3, none⟩ v3 h)
end Go.Proofs.Ythogiakfbgehnaa
namespace Go.Proofs.Ythogiakfbgehnaa
open Go.RowKit Go.Maps
attribute [local go_sem] Oper.semAt_some
end Go.Proofs.Ythogiakfbgehnaa
namespace Go.Proofs.Ythogiakfbgehnaa
open Go.RowKit Go.Maps
attribute [local go_sem] Oper.semAt_some
/-- What all tokens come to. -/
def psTree (G : PsG) : PsR Tre := (psPut G 20000 (-1) 0 20000).bind fun x a n => if a < G.toks.length then .bad a 110 else .ok x 0 0
/-- What is answered: a tree, or where, and why there is none. -/
def TreQ (w : World) (r : PsR Tre) (e : Ending) (W : World) : Prop :=
 Below w.heap.size w W ∧ match r with
 | .bad b x => e = .returned (.tuple #[treV ⟨0, 0, 0⟩ none 0 0, .int .i64 (b : Int), .int .i64 x])
 | .ok t _ _ => ∃ ga gc, e = .returned (.tuple #[treV ⟨t.k, t.i, t.a⟩ ga t.l.len gc, .int .i64 0, .int .i64 0]) ∧ TrS W (fun b => w.heap.size ≤ b) ga gc t.l
end Go.Proofs.Ythogiakfbgehnaa
namespace Go.Proofs.Ythogiakfbgehnaa
open Go.RowKit Go.Maps
attribute [local go_sem] Oper.semAt_some
/-- The first number that is no token's. -/
def firstB (T : Nat) : List Int → Option Nat
 | [] => none
 | k :: ks => if k < 0 ∨ (T : Int) ≤ k then some 0 else (firstB T ks).map (fun i => i + 1)
def badTk (T : Nat) (k : Int) : Bool := decide (k < 0 ∨ (T : Int) ≤ k)
theorem firstB_none {T : Nat} : ∀ {l : List Int}, firstB T l = none → ∀ x ∈ l, 0 ≤ x ∧ x < (T : Int)
 | [], _, x, hx => by cases hx
 | k :: ks, h, x, hx => by
  unfold firstB at h
  by_cases hk : k < 0 ∨ (T : Int) ≤ k
  ·rw [if_pos hk] at h; cases h
  ·rw [if_neg hk, Option.map_eq_none_iff] at h
   rcases List.mem_cons.1 hx with rfl | hx
   ·omega
   ·exact firstB_none h x hx
theorem firstB_step {T : Nat} {l : List Int} {k : Nat} (hk : k < l.length) (h : firstB T l = (firstB T (l.drop k)).map (fun i => i + k)) : (badTk T l[k] = true → firstB T l = some k) ∧ (badTk T l[k] = false → firstB T l = (firstB T (l.drop (k + 1))).map (fun i => i + (k + 1))) := by
 rw [List.drop_eq_getElem_cons hk, firstB] at h
 constructor
 ·intro hb
  rw [if_pos (of_decide_eq_true hb)] at h
  rw [h]
  simp
 ·intro hb
  rw [if_neg (of_decide_eq_false hb)] at h
  rw [h, Option.map_map]
  congr 1
  funext i
  simp only [Function.comp]
  omega
/-- What is parsed by, whatever the tokens are. -/
structure PrF (W0 : World) (d : CfD) (ta : Option Addr) (tc : Nat) (tbs : List IltD) (ka : Option Addr) (kc : Nat) (toks : List Int) : Prop where
 gd : CfAt W0 d
 gt : AltsI W0 ta tc tbs
 gk : Ints W0 ka kc toks
 rng : ∀ r ∈ d.alts, ∀ a ∈ r.ds, ∀ x ∈ a.l, -9223372036854775808 ≤ x ∧ x ≤ 9223372036854775807
 trg : ∀ t ∈ tbs, ∀ x ∈ t.l, -9223372036854775808 ≤ x ∧ x ≤ 9223372036854775807
 srg : ∀ r ∈ d.alts, ∀ a ∈ r.ds, a.l.length ≤ 30 ∧ ∀ x ∈ a.l, -9223372036854775807 ≤ x
theorem PrF.grown {W0 W1 : World} {d : CfD} {ta ka : Option Addr} {tc kc : Nat} {tbs : List IltD} {toks : List Int} (h : PrF W0 d ta tc tbs ka kc toks) (hb : Below W0.heap.size W0 W1) : PrF W1 d ta tc tbs ka kc toks := ⟨h.gd.grown hb, h.gt.grown hb, h.gk.grown hb, h.rng, h.trg, h.srg⟩
theorem PrF.pre {W0 : World} {d : CfD} {ta ka : Option Addr} {tc kc : Nat} {tbs : List IltD} {toks : List Int} (h : PrF W0 d ta tc tbs ka kc toks) (hn : firstB d.toks.length toks = none) : PrE W0 d ta tc tbs ka kc toks :=
 ⟨⟨h.gd, h.gt, h.gk, fun x hx => (firstB_none hn x hx).1, h.rng⟩, h.trg, h.srg, fun x hx => by
  have h1 := (firstB_none hn x hx).2
  have h2 := h.gd.toks.le
  have h3 := h.gd.toks.max
  rw [List.length_map] at h2
  omega⟩
/-- What tokens come to. -/
def psParse (G : PsG) : PsR Tre := match firstB G.T G.toks with
 | some i => .bad i 1
 | none => psTree G
end Go.Proofs.Ythogiakfbgehnaa
namespace Go.Proofs.Ythogiakfbgehnaa
open Go.RowKit Go.Maps
attribute [local go_sem] Oper.semAt_some
/-- append(a, b...), and what it writes into. -/
theorem OwnKZ.app2 {w : World} {base cap : Nat} {a : Option Addr} {l : List Int} (h : OwnKZ w base a cap l) (b' : Addr) (bc : Nat) (m : List Int) (hm : Ints w (some b') bc m) (ty : TypeId) (hn : l.length + m.length ≤ 1099511627780) (hb : base ≤ w.heap.size) :
 ∃ a' c' w', (Builtin.append_ #[35, 35] ty #[.slice a l.length cap, .slice (some b') m.length bc]).run Try.prog w = .ok (.slice a' (l.length + m.length) c') w' ∧
  OwnKZ w' base a' c' (l ++ m) ∧ w.grownBy w' (Value.slice a l.length cap).ownBlock ∧ ((Value.slice a' (l.length + m.length) c').ownBlock = (Value.slice a l.length cap).ownBlock ∨ (Value.slice a' (l.length + m.length) c').ownBlock = some w.heap.size) := by
 obtain ⟨i0, hi, hz0, hz1, hz2⟩ := info_parts info_keyZ
 have hnew : ∀ j u, (m.map (Value.int .i64))[j]? = some u → w.cell? (b'.add j) = some u := by
  intro j u hj
  have hjl : j < (m.map (Value.int .i64)).length := (List.getElem?_eq_some_iff.1 hj).1
  obtain ⟨b2, off, e⟩ := hm.at_ j hjl
  have e := Option.some.inj e
  subst e
  have := hm.cell b2 off rfl j hjl
  rw [show (⟨b2, off, none⟩ : Addr).add j = ⟨b2, off + j, none⟩ from by unfold Addr.add; split <;> simp_all]
  exact this.trans ((List.getElem?_eq_getElem hjl).symm.trans hj)
 obtain ⟨v', w', hrun, ho, hg, _, hw⟩ := run_append_own_at (P := Try.prog) (w := w) base 35 ty 3 i0 _ 1 8 Try.underlying35 hi hz0 hz1 hz2 rfl (by decide) _ l.length _ h b' m.length bc (m.map (Value.int .i64)) (by simp) hnew (fun u hu => by
  obtain ⟨x, _, rfl⟩ := List.mem_map.1 hu
  rfl) (by unfold maxLen; omega) (by omega) hb
 obtain ⟨a', cap', rfl⟩ := slice_of_own ho
 refine ⟨a', cap', w', hrun, ?_, hg, hw⟩
 unfold OwnKZ
 rw [List.map_append, List.length_append]
 exact ho
theorem OwnKZ.belowZ {w w' : World} {base cap : Nat} {a : Option Addr} {l : List Int} (h : OwnKZ w base a cap l) (hb : Below w.heap.size w w') : OwnKZ w' base a cap l := World.ownsRow.kept h (below_grownBy hb none) (by cases (Value.slice a l.length cap).ownBlock <;> simp)
theorem hdT_self (h : TrH) (n : Nat) : hdT h h n n = true := by simp [hdT]
theorem sameT_self : ∀ (f : TrF), sameT f f = true
 | .nil => rfl
 | .cons h k r => by
  unfold sameT
  rw [hdT_self, sameT_self k, sameT_self r]
  rfl
theorem Below.put4 {B : Nat} {w V : World} (h : Below B w V) {nb : Nat} (hn : B ≤ nb) (v0 v1 v2 v3 : Value) : Below B w ((((V.setCell ⟨nb, 0, none⟩ v0).setCell ⟨nb, 1, none⟩ v1).setCell ⟨nb, 2, none⟩ v2).setCell ⟨nb, 3, none⟩ v3) :=
 (((h.setCell (p := ⟨nb, 0, none⟩) hn v0).setCell (p := ⟨nb, 1, none⟩) hn v1).setCell (p := ⟨nb, 2, none⟩) hn v2).setCell (p := ⟨nb, 3, none⟩) hn v3
end Go.Proofs.Ythogiakfbgehnaa
namespace Go.Proofs.Ythogiakfbgehnaa
open Go.RowKit Go.Maps
attribute [local go_sem] Oper.semAt_some
/-- An alternative of the rule of a number, if there is one: a rule has a name, too. -/
def altD (d : CfD) (k i : Int) : Option IltD := match d.alts[ruL k]? with
 | none => none
 | some ru => if ruL k < d.names.length ∧ 0 ≤ i then ru.ds[i.toNat]? else none
def altR : Option IltD → Value
 | none => .tuple #[.slice none 0 0, .bool false]
 | some x => .tuple #[x.v, .bool true]
set_option maxRecDepth 100000 in
set_option maxHeartbeats 16000000 in
theorem isTok_any (h : TrH) (a : Option Addr) (n c : Nat) (w : World) :
 Calls Try.prog 97 #[treV h a n c] w fun e W => e = .returned (.bool (decide (0 ≤ h.k))) ∧ Below w.heap.size w W := by
 obtain ⟨hk, hn, hs⟩ := h
 have hB := Blk.new w 51 #[.int .i64 hk, .int .i64 hn, .int .i64 hs, .slice a n c]
 have hb : Below w.heap.size w (w.alloc (.cells #[.int .i64 hk, .int .i64 hn, .int .i64 hs, .slice a n c] 51)) := (Below.refl _ _).alloc (Nat.le_refl _) _
 have x0 := hB.cell 0
 have xl := hB.lt
 simp only [List.getElem?_cons_zero] at x0
 have HF := Lib.hid hb
 clear hB hb
 by_cases h0 : 0 ≤ hk
 ·have e0 : decide (0 ≤ hk) = true := decide_eq_true h0
  show Calls Try.prog 97 _ w (fun e W => e = .returned (.bool (decide (0 ≤ hk))) ∧ _)
  rw [e0]
  go_enter Try.func97, Try.ntmps97
  go_wp2_with (fail)
  first | exact ⟨rfl, HF.out⟩ | exact bodyPost_ret (v := .bool true) (by simp [results, Try.results97, go_sem]; try first | rfl | assumption | omega) rfl ⟨rfl, HF.out⟩
 ·have e0 : decide (0 ≤ hk) = false := decide_eq_false h0
  show Calls Try.prog 97 _ w (fun e W => e = .returned (.bool (decide (0 ≤ hk))) ∧ _)
  rw [e0]
  go_enter Try.func97, Try.ntmps97
  go_wp2_with (fail)
  first | exact ⟨rfl, HF.out⟩ | exact bodyPost_ret (v := .bool false) (by simp [results, Try.results97, go_sem]; try first | rfl | assumption | omega) rfl ⟨rfl, HF.out⟩
set_option maxRecDepth 100000 in
set_option maxHeartbeats 16000000 in
theorem truleOf_any (k : Int) (w : World) (h : -9223372036854775808 ≤ k ∧ k ≤ 9223372036854775806) :
 Calls Try.prog 128 #[.int .i64 k] w fun e w' => e = .returned (.int .i64 (-1 - k)) ∧ w' = w := by
 have hw : IntKind.i64.wrap (-1 - k) = -1 - k := IntWalk.i64_in _ (by omega)
 go_enter Try.func128, Try.ntmps128
 go_wp2_with (fail)
 first | exact ⟨rfl, rfl⟩ | exact bodyPost_ret (v := .int .i64 (-1 - k)) (by simp [results, Try.results128, go_sem]; try first | rfl | assumption | omega) rfl ⟨rfl, rfl⟩
set_option maxRecDepth 100000 in
set_option maxHeartbeats 16000000 in
theorem kids_any (h : TrH) (a : Option Addr) (n c : Nat) (w : World) :
 Calls Try.prog 105 #[treV h a n c] w fun e W => e = .returned (.slice a n c) ∧ W = w.alloc (.cells #[.int .i64 h.k, .int .i64 h.i, .int .i64 h.a, .slice a n c] 51) := by
 obtain ⟨hk, hn, hs⟩ := h
 go_enter Try.func105, Try.ntmps105
 go_wp2
 go_ret
 exact ⟨rfl, rfl⟩
set_option maxRecDepth 100000 in
set_option maxHeartbeats 16000000 in
theorem altOf_any (d : CfD) (k i : Int) (w : World) (hd : CfAt w d) (hk : -9223372036854775808 ≤ k ∧ k < 0) :
 Calls Try.prog 132 #[d.v, .int .i64 k, .int .i64 i] w fun e W => e = .returned (altR (altD d k i)) ∧ Below w.heap.size w W := by
 obtain ⟨xt, xta, xtc, xn, xna, xnc, xa, xaa, xac⟩ := d
 obtain ⟨r, hr⟩ : ∃ r : Nat, (r : Int) = -1 - k := ⟨(-1 - k).toNat, by omega⟩
 have hrl : ruL k = r := by unfold ruL; omega
 obtain ⟨R, HR⟩ : ∃ q, Hid (altR (altD ⟨xt, xta, xtc, xn, xna, xnc, xa, xaa, xac⟩ k i) = q) := ⟨_, Lib.hid rfl⟩
 have HR2 := HR.out
 unfold altD at HR2
 rw [hrl] at HR2
 dsimp only at HR2
 rw [HR.out]
 have hrE : -1 - k = (r : Int) := hr.symm
 have hwr : IntKind.i64.wrap (r : Int) = (r : Int) := IntWalk.i64_in _ (by omega)
 dsimp only [CfD.v] at *
 have hb : Below w.heap.size w (w.alloc (.cells #[.slice xta xt.length xtc, .slice xna xn.length xnc, .slice xaa xa.length xac] 25)) := (Below.refl _ w).alloc (Nat.le_refl _) _
 have hA := Blk.new w 25 #[.slice xta xt.length xtc, .slice xna xn.length xnc, .slice xaa xa.length xac]
 have hdA := hd.alts
 have hdR := hd.rules
 dsimp only at hdA hdR
 have hxm : xa.length ≤ xac ∧ xac ≤ 9223372036854775807 := ⟨by have := hdA.le; rwa [List.length_map] at this, hdA.max⟩
 obtain ⟨T, HT⟩ : ∃ q, Hid (xt.length = q) := ⟨_, Lib.hid rfl⟩
 obtain ⟨N, HN⟩ : ∃ q, Hid (xn.length = q) := ⟨_, Lib.hid rfl⟩
 obtain ⟨L, HL⟩ : ∃ q, Hid (xa.length = q) := ⟨_, Lib.hid rfl⟩
 rw [HT.out, HN.out, HL.out] at hA hb ⊢
 rw [HL.out] at hxm
 rw [HN.out] at HR2
 have x0 := hA.cell 0
 have x1 := hA.cell 1
 have x2 := hA.cell 2
 have xl := hA.lt
 simp only [List.getElem?_cons_zero, List.getElem?_cons_succ] at x0 x1 x2
 have HF := Lib.hid hb
 have Hb := Lib.hid hb
 clear hA hb hd hr hrl
 by_cases h1 : (N : Int) ≤ (r : Int)
 ·have HR : Hid (R = .tuple #[.slice none 0 0, .bool false]) := Lib.hid (by
   rw [← HR2]
   cases xa[r]? with
   | none => rfl
   | some ru => dsimp only; rw [if_neg (by omega)]; rfl)
  clear HR2 hdA hdR
  go_enter Try.func132, Try.ntmps132
  go_wp2_with (fail)
  refine (truleOf_any k _ (by omega)).mono ?_
  rintro e9 w9 ⟨rfl, rfl⟩
  rw [hrE]
  go_wp2_with (fail)
  first | exact ⟨by rw [HR.out], HF.out⟩ | exact bodyPost_ret (v := .tuple #[.slice none 0 0, .bool false]) (by simp [results, Try.results132, go_sem]; try first | rfl | assumption | omega) rfl ⟨by rw [HR.out], HF.out⟩
 by_cases h2 : (L : Int) ≤ (r : Int)
 ·have HR : Hid (R = .tuple #[.slice none 0 0, .bool false]) := Lib.hid (by
   rw [← HR2, List.getElem?_eq_none (by rw [HL.out]; omega)]
   rfl)
  clear HR2 hdA hdR
  go_enter Try.func132, Try.ntmps132
  go_wp2_with (fail)
  refine (truleOf_any k _ (by omega)).mono ?_
  rintro e9 w9 ⟨rfl, rfl⟩
  rw [hrE]
  go_wp2_with (fail)
  first | exact ⟨by rw [HR.out], HF.out⟩ | exact bodyPost_ret (v := .tuple #[.slice none 0 0, .bool false]) (by simp [results, Try.results132, go_sem]; try first | rfl | assumption | omega) rfl ⟨by rw [HR.out], HF.out⟩
 have hra : r < xa.length := by rw [HL.out]; omega
 rw [List.getElem?_eq_getElem hra] at HR2
 dsimp only at HR2
 by_cases h3 : i < 0
 ·have HR : Hid (R = .tuple #[.slice none 0 0, .bool false]) := Lib.hid (by
   rw [← HR2, if_neg (by omega)]
   rfl)
  clear HR2 hdA hdR
  go_enter Try.func132, Try.ntmps132
  go_wp2_with (fail)
  refine (truleOf_any k _ (by omega)).mono ?_
  rintro e9 w9 ⟨rfl, rfl⟩
  rw [hrE]
  go_wp2_with (fail)
  first | exact ⟨by rw [HR.out], HF.out⟩ | exact bodyPost_ret (v := .tuple #[.slice none 0 0, .bool false]) (by simp [results, Try.results132, go_sem]; try first | rfl | assumption | omega) rfl ⟨by rw [HR.out], HF.out⟩
 rw [if_pos (by omega)] at HR2
 obtain ⟨m, rfl⟩ : ∃ m : Nat, i = (m : Int) := ⟨i.toNat, by omega⟩
 rw [Int.toNat_natCast] at HR2
 obtain ⟨p, po, rfl⟩ := hdA.at_ r (by rw [List.length_map]; exact hra)
 have cp := hdA.cell p po rfl r (by rw [List.length_map]; exact hra)
 rw [List.getElem_map] at cp
 have hRu := hdR xa[r] (List.getElem_mem hra)
 obtain ⟨ru, hru⟩ : ∃ q, q = xa[r] := ⟨_, rfl⟩
 rw [← hru] at cp hRu HR2
 obtain ⟨rds, ra, rc⟩ := ru
 dsimp only at HR2 hRu
 change _ = some (Value.slice ra rds.length rc) at cp
 have hrm : rds.length ≤ rc ∧ rc ≤ 9223372036854775807 := ⟨by have := hRu.row.le; rwa [List.length_map] at this, hRu.row.max⟩
 obtain ⟨RL, hRL⟩ : ∃ q, Hid (rds.length = q) := ⟨_, Lib.hid rfl⟩
 rw [hRL.out] at cp hrm
 have cpW := cell_up Hb.out cp
 have hblp := World.block_lt_of_cell? _ _ cpW
 have hrI0 : (0 : Int) ≤ (r : Int) := by omega
 have hrI1 : (r : Int) < (L : Int) := by omega
 have hmI0 : (0 : Int) ≤ (m : Int) := by omega
 by_cases h4 : (RL : Int) ≤ (m : Int)
 ·have HR : Hid (R = .tuple #[.slice none 0 0, .bool false]) := Lib.hid (by
   rw [← HR2, List.getElem?_eq_none (by rw [hRL.out]; omega)]
   rfl)
  clear HR2 hdA hdR hRu
  go_enter Try.func132, Try.ntmps132
  go_wp2_with (fail)
  refine (truleOf_any k _ (by omega)).mono ?_
  rintro e9 w9 ⟨rfl, rfl⟩
  rw [hrE]
  go_wp2_with (fail)
  first | exact ⟨by rw [HR.out], HF.out⟩ | exact bodyPost_ret (v := .tuple #[.slice none 0 0, .bool false]) (by simp [results, Try.results132, go_sem]; try first | rfl | assumption | omega) rfl ⟨by rw [HR.out], HF.out⟩
 have hma : m < rds.length := by rw [hRL.out]; omega
 rw [List.getElem?_eq_getElem hma] at HR2
 have HR : Hid (R = .tuple #[rds[m].v, .bool true]) := Lib.hid HR2.symm
 obtain ⟨q, qo, rfl⟩ := hRu.row.at_ m (by rw [List.length_map]; exact hma)
 have cq := hRu.row.cell q qo rfl m (by rw [List.length_map]; exact hma)
 rw [List.getElem_map] at cq
 have cqW := cell_up Hb.out cq
 have hblq := World.block_lt_of_cell? _ _ cqW
 have hmI1 : (m : Int) < (RL : Int) := by omega
 obtain ⟨al, hal⟩ : ∃ q, Hid (rds[m] = q) := ⟨_, Lib.hid rfl⟩
 rw [hal.out] at cqW HR
 obtain ⟨wl, wa, wc⟩ := al
 change _ = some (Value.slice wa wl.length wc) at cqW
 have HR : Hid (R = .tuple #[.slice wa wl.length wc, .bool true]) := HR
 clear HR2 hdA hdR hRu cp cq hru
 go_enter Try.func132, Try.ntmps132
 go_wp2_with (fail)
 refine (truleOf_any k _ (by omega)).mono ?_
 rintro e9 w9 ⟨rfl, rfl⟩
 rw [hrE]
 go_wp2_with (fail)
 first | exact ⟨by rw [HR.out], HF.out⟩ | exact bodyPost_ret (v := .tuple #[.slice wa wl.length wc, .bool true]) (by simp [results, Try.results132, go_sem]; try first | rfl | assumption | omega) rfl ⟨by rw [HR.out], HF.out⟩
end Go.Proofs.Ythogiakfbgehnaa
