/- Texts joined: Th. -/
import Derived.Test.YthogiakfbgehnaaREAk
import Derived.Test.YthogiakfbgehnaaREAj
import Derived.Deep.CutRange
set_option linter.unusedVariables false
set_option linter.unusedSimpArgs false
namespace Go.Proofs.Ythogiakfbgehnaa
open Go.RowKit Go.Maps

attribute [local go_sem] Oper.semAt_some

def altRv : Option IltD → Value
  | none => .slice none 0 0
  | some x => x.v
theorem altR_eq (o : Option IltD) : altR o = .tuple #[altRv o, .bool o.isSome] := by cases o <;> rfl
/-- What put leaves. -/
def GutQ (w : World) (gp : Nat) (d : CfD) (sa : Option Addr) (sc : Nat) (st : List Int) (r : GwR Tre) (e : Ending) (W : World) : Prop :=
  w.grownBy W (some gp) ∧ match r with
  | .bad s x => x ≠ 0 ∧ e = .returned (.tuple #[treV ⟨0, 0, 0⟩ none 0 0, .int .i64 x]) ∧ ∃ tk nd : Int, Blk W gp 119 [.slice d.ta d.toks.length d.tc, .slice d.na d.names.length d.nc, .slice d.aa d.alts.length d.ac, .slice sa st.length sc, .int .i64 (s : Int), .int .i64 tk, .int .i64 nd]
  | .ok t s a q => ∃ ga gc, e = .returned (.tuple #[treV ⟨t.k, t.i, t.a⟩ ga t.l.len gc, .int .i64 0]) ∧ TrS W (fun g => w.heap.size ≤ g) ga gc t.l ∧ Blk W gp 119 [.slice d.ta d.toks.length d.tc, .slice d.na d.names.length d.nc, .slice d.aa d.alts.length d.ac, .slice sa st.length sc, .int .i64 (s : Int), .int .i64 (a : Int), .int .i64 (20000 - (q : Int))]
theorem gw_long (d : CfD) (st : List Int) (m : Nat) (k : Int) (s a : Nat) : gwPut d st m k s a 0 = .bad s 2 := by
  cases m with
  | zero => rfl
  | succ m => rw [gwPut, if_pos rfl]
theorem altD_mem {d : CfD} {k i : Int} {al : IltD} (h : altD d k i = some al) : ∃ ru ∈ d.alts, al ∈ ru.ds := by
  unfold altD at h
  cases e : d.alts[ruL k]? with
  | none => rw [e] at h; cases h
  | some ru =>
    rw [e] at h
    dsimp only at h
    by_cases hc : ruL k < d.names.length ∧ 0 ≤ i
    · rw [if_pos hc] at h
      exact ⟨ru, List.mem_of_getElem? e, List.mem_of_getElem? h⟩
    · rw [if_neg hc] at h; cases h
set_option maxRecDepth 100000 in
set_option maxHeartbeats 16000000 in
theorem tput_any (W0 : World) (d : CfD) (hd : CfAt W0 d) (hrg : ∀ r ∈ d.alts, ∀ a ∈ r.ds, ∀ x ∈ a.l, -9223372036854775808 ≤ x ∧ x ≤ 9223372036854775807) (sa : Option Addr) (sc : Nat) (st : List Int) (hst : Ints W0 sa sc st) (gp : Nat) (hgp : W0.heap.size ≤ gp) : ∀ (m : Nat) (k : Int) (s a left : Nat) (nd : Int) (w : World), -9223372036854775808 ≤ k → k ≤ 9223372036854775807 → nd + (left : Int) = 20000 → left ≤ m → left ≤ 20000 → s ≤ st.length → a + left ≤ 40000 → Below W0.heap.size W0 w → Blk w gp 119 [.slice d.ta d.toks.length d.tc, .slice d.na d.names.length d.nc, .slice d.aa d.alts.length d.ac, .slice sa st.length sc, .int .i64 (s : Int), .int .i64 (a : Int), .int .i64 nd] →
    Calls Try.prog 98 #[.pointer (some ⟨gp, 0, none⟩), .int .i64 k] w (GutQ w gp d sa sc st (gwPut d st m k s a left)) := by
  have Hd := Lib.hid hd
  have Hst := Lib.hid hst
  have Hrg := Lib.hid hrg
  have hsm : st.length ≤ sc ∧ sc ≤ 9223372036854775807 := ⟨by have := hst.le; rwa [List.length_map] at this, hst.max⟩
  clear hd hst hrg
  intro m
  induction m with
  | zero =>
    intro k s a left nd w hk1 hk2 hnd hm hl hs ha hW hB
    obtain rfl : left = 0 := by omega
    have HRB : Hid (gwPut d st 0 k s a 0 = .bad s 2) := Lib.hid (gw_long d st 0 k s a)
    rw [HRB.out]
    have hB1 := (hB.set 6 (.int .i64 (nd + 1))).alloc (.cells #[.int .i64 0, .int .i64 0, .int .i64 0, .slice none 0 0] 51)
    have hN1 := Blk.new (w.setCell ⟨gp, 6, none⟩ (.int .i64 (nd + 1))) 51 #[.int .i64 0, .int .i64 0, .int .i64 0, .slice none 0 0]
    have hG1 : w.grownBy ((w.setCell ⟨gp, 6, none⟩ (.int .i64 (nd + 1))).alloc (.cells #[.int .i64 0, .int .i64 0, .int .i64 0, .slice none 0 0] 51)) (some gp) := grownBy_trans (grownBy_set w gp 6 _) (World.grownBy_alloc _ _ (some gp)) (fun i e => .inl e)
    have hs1 : (w.setCell ⟨gp, 6, none⟩ (.int .i64 (nd + 1))).heap.size = w.heap.size := Array.size_modify
    rw [hs1] at hN1
    have HF : GutQ w gp d sa sc st (.bad s 2) (.returned (.tuple #[treV ⟨0, 0, 0⟩ none 0 0, .int .i64 2])) ((w.setCell ⟨gp, 6, none⟩ (.int .i64 (nd + 1))).alloc (.cells #[.int .i64 0, .int .i64 0, .int .i64 0, .slice none 0 0] 51)) := ⟨hG1, by omega, rfl, (a : Int), nd + 1, hB1⟩
    have g0 := hN1.cell 0
    have g1 := hN1.cell 1
    have g2 := hN1.cell 2
    have g3 := hN1.cell 3
    simp only [List.getElem?_cons_zero, List.getElem?_cons_succ] at g0 g1 g2 g3
    have y6 := hB.cell 6
    have yf6 := hB.frozen 6
    have yl := hB.lt
    simp only [List.getElem?_cons_zero, List.getElem?_cons_succ] at y6
    have hgt : (20000 : Int) < nd + 1 := by omega
    have hwn : IntKind.i64.wrap (nd + 1) = nd + 1 := IntWalk.i64_in _ (by omega)
    have HF := Lib.hid HF
    clear HRB hB1 hN1 hG1 hs1 hB hW
    go_enter Try.func98, Try.ntmps98
    go_wp2_with (fail)
    exact bodyPost_ret (v := .tuple #[.agg #[.int .i64 0, .int .i64 0, .int .i64 0, .slice none 0 0], .int .i64 2]) (by simp [results, Try.results98, go_sem, g0, g1, g2, g3]) rfl HF.out
  | succ m ih =>
    intro k s a left nd w hk1 hk2 hnd hm hl hs ha hW hB
    by_cases h0 : left = 0
    · subst h0
      have HRB : Hid (gwPut d st (m + 1) k s a 0 = .bad s 2) := Lib.hid (gw_long d st (m + 1) k s a)
      rw [HRB.out]
      have hB1 := (hB.set 6 (.int .i64 (nd + 1))).alloc (.cells #[.int .i64 0, .int .i64 0, .int .i64 0, .slice none 0 0] 51)
      have hN1 := Blk.new (w.setCell ⟨gp, 6, none⟩ (.int .i64 (nd + 1))) 51 #[.int .i64 0, .int .i64 0, .int .i64 0, .slice none 0 0]
      have hG1 : w.grownBy ((w.setCell ⟨gp, 6, none⟩ (.int .i64 (nd + 1))).alloc (.cells #[.int .i64 0, .int .i64 0, .int .i64 0, .slice none 0 0] 51)) (some gp) := grownBy_trans (grownBy_set w gp 6 _) (World.grownBy_alloc _ _ (some gp)) (fun i e => .inl e)
      have hs1 : (w.setCell ⟨gp, 6, none⟩ (.int .i64 (nd + 1))).heap.size = w.heap.size := Array.size_modify
      rw [hs1] at hN1
      have HF : GutQ w gp d sa sc st (.bad s 2) (.returned (.tuple #[treV ⟨0, 0, 0⟩ none 0 0, .int .i64 2])) ((w.setCell ⟨gp, 6, none⟩ (.int .i64 (nd + 1))).alloc (.cells #[.int .i64 0, .int .i64 0, .int .i64 0, .slice none 0 0] 51)) := ⟨hG1, by omega, rfl, (a : Int), nd + 1, hB1⟩
      have g0 := hN1.cell 0
      have g1 := hN1.cell 1
      have g2 := hN1.cell 2
      have g3 := hN1.cell 3
      simp only [List.getElem?_cons_zero, List.getElem?_cons_succ] at g0 g1 g2 g3
      have y6 := hB.cell 6
      have yf6 := hB.frozen 6
      have yl := hB.lt
      simp only [List.getElem?_cons_zero, List.getElem?_cons_succ] at y6
      have hgt : (20000 : Int) < nd + 1 := by omega
      have hwn : IntKind.i64.wrap (nd + 1) = nd + 1 := IntWalk.i64_in _ (by omega)
      have HF := Lib.hid HF
      clear HRB hB1 hN1 hG1 hs1 hB hW
      go_enter Try.func98, Try.ntmps98
      go_wp2_with (fail)
      exact bodyPost_ret (v := .tuple #[.agg #[.int .i64 0, .int .i64 0, .int .i64 0, .slice none 0 0], .int .i64 2]) (by simp [results, Try.results98, go_sem, g0, g1, g2, g3]) rfl HF.out
    have HR0 : Hid (st[s]? = none → k < 0 → gwPut d st (m + 1) k s a left = .bad s 110) := Lib.hid (fun h hk => by
      rw [gwPut, if_neg h0, if_neg (by omega), h])
    have HR1 : Hid (∀ i, st[s]? = some i → k < 0 → altD d k i = none → gwPut d st (m + 1) k s a left = .bad s 110) := Lib.hid (fun i h hk h2 => by
      rw [gwPut, if_neg h0, if_neg (by omega), h]
      dsimp only
      rw [h2])
    have HR2 : Hid (∀ i al, st[s]? = some i → k < 0 → altD d k i = some al → gwPut d st (m + 1) k s a left = (gwSeq (gwPut d st m) al.l (s + 1) a (left - 1)).bind fun l s a n => .ok ⟨k, i, 0, l⟩ s a n) := Lib.hid (fun i al h hk h2 => by
      rw [gwPut, if_neg h0, if_neg (by omega), h]
      dsimp only
      rw [h2])
    have HR3 : Hid (0 ≤ k → gwPut d st (m + 1) k s a left = .ok ⟨k, 0, (a : Int), .nil⟩ s (a + 1) (left - 1)) := Lib.hid (fun hk => by
      rw [gwPut, if_neg h0, if_pos hk])
    have HFK : Hid (∀ k s a n x s' a' n', s ≤ st.length → gwPut d st m k s a n = .ok x s' a' n' → GwK st.length s a n s' a' n' ∧ n' + 1 ≤ n) := Lib.hid (fun k s a n x s' a' n' h1 h2 => gwput_k d st m k s a n h1 h2)
    have HALT : Hid (k < 0 → ∀ W, Below W0.heap.size W0 W → ∀ i, Calls Try.prog 132 #[d.v, .int .i64 k, .int .i64 i] W fun e W' => e = .returned (altR (altD d k i)) ∧ Below W.heap.size W W') := Lib.hid (fun hk W hb i => altOf_any d k i W (Hd.out.grown hb) ⟨hk1, hk⟩)
    obtain ⟨RES, HRS⟩ : ∃ q : GwR Tre, Hid (gwPut d st (m + 1) k s a left = q) := ⟨_, Lib.hid rfl⟩
    rw [HRS.out] at HR0 HR1 HR2 HR3 ⊢
    obtain ⟨F, HFF⟩ : ∃ q : Int → Nat → Nat → Nat → GwR Tre, Hid (gwPut d st m = q) := ⟨_, Lib.hid rfl⟩
    rw [HFF.out] at HFK HR2 ih
    have HIH := Lib.hid ih
    clear ih HRS HFF
    obtain ⟨Q, hQ⟩ : ∃ Q : Ending → World → Prop, Hid (GutQ w gp d sa sc st RES = Q) := ⟨_, Lib.hid rfl⟩
    rw [hQ.out]
    have HQB : Hid (∀ W (s : Nat) x tk nd, RES = .bad s x → x ≠ 0 → w.grownBy W (some gp) → Blk W gp 119 [.slice d.ta d.toks.length d.tc, .slice d.na d.names.length d.nc, .slice d.aa d.alts.length d.ac, .slice sa st.length sc, .int .i64 (s : Int), .int .i64 tk, .int .i64 nd] → Q (.returned (.tuple #[treV ⟨0, 0, 0⟩ none 0 0, .int .i64 x])) W) := Lib.hid (fun W s x tk nd h1 h2 h3 h4 => by rw [← hQ.out, h1]; exact ⟨h3, h2, rfl, tk, nd, h4⟩)
    have HQO : Hid (∀ W (t : Tre) (s a q : Nat) ga gc, RES = .ok t s a q → w.grownBy W (some gp) → TrS W (fun g => w.heap.size ≤ g) ga gc t.l → Blk W gp 119 [.slice d.ta d.toks.length d.tc, .slice d.na d.names.length d.nc, .slice d.aa d.alts.length d.ac, .slice sa st.length sc, .int .i64 (s : Int), .int .i64 (a : Int), .int .i64 (20000 - (q : Int))] → Q (.returned (.tuple #[treV ⟨t.k, t.i, t.a⟩ ga t.l.len gc, .int .i64 0])) W) := Lib.hid (fun W t s a q ga gc h1 h2 h3 h4 => by rw [← hQ.out, h1]; exact ⟨h2, ga, gc, rfl, h3, h4⟩)
    clear hQ
    have HL9 := Lib.hid hnd
    have HBL := Lib.hid (show gp < w.heap.size from hB.lt)
    have hb0' := hB.set 6 (.int .i64 (nd + 1))
    have hs1 : (w.setCell ⟨gp, 6, none⟩ (.int .i64 (nd + 1))).heap.size = w.heap.size := Array.size_modify
    have HB1 := (hb0'.alloc (.cells #[.int .i64 0, .int .i64 0, .int .i64 0, .slice none 0 0] 51)).alloc (.cells #[.int .i64 k, .int .i64 0, .int .i64 0, .slice none 0 0] 51)
    have HN1 := (Blk.new (w.setCell ⟨gp, 6, none⟩ (.int .i64 (nd + 1))) 51 #[.int .i64 0, .int .i64 0, .int .i64 0, .slice none 0 0]).alloc (.cells #[.int .i64 k, .int .i64 0, .int .i64 0, .slice none 0 0] 51)
    have HX1 := Blk.new ((w.setCell ⟨gp, 6, none⟩ (.int .i64 (nd + 1))).alloc (.cells #[.int .i64 0, .int .i64 0, .int .i64 0, .slice none 0 0] 51)) 51 #[.int .i64 k, .int .i64 0, .int .i64 0, .slice none 0 0]
    have HG1 : w.grownBy (((w.setCell ⟨gp, 6, none⟩ (.int .i64 (nd + 1))).alloc (.cells #[.int .i64 0, .int .i64 0, .int .i64 0, .slice none 0 0] 51)).alloc (.cells #[.int .i64 k, .int .i64 0, .int .i64 0, .slice none 0 0] 51)) (some gp) := grownBy_trans (grownBy_trans (grownBy_set w gp 6 _) (World.grownBy_alloc _ _ (some gp)) (fun i e => .inl e)) (World.grownBy_alloc _ _ (some gp)) (fun i e => .inl e)
    have HW1 := hW.grown HG1 hW.size (fun i e => by cases e; exact hgp)
    rw [World.size_alloc, hs1] at HX1
    rw [hs1] at HN1
    change Blk _ gp 119 [.slice d.ta d.toks.length d.tc, .slice d.na d.names.length d.nc, .slice d.aa d.alts.length d.ac, .slice sa st.length sc, .int .i64 (s : Int), .int .i64 (a : Int), .int .i64 (nd + 1)] at HB1
    have y6 := hB.cell 6
    have yf6 := hB.frozen 6
    have yl := hB.lt
    simp only [List.getElem?_cons_zero, List.getElem?_cons_succ] at y6
    have hwn : IntKind.i64.wrap (nd + 1) = nd + 1 := IntWalk.i64_in _ (by omega)
    have hngt : ¬ (20000 : Int) < nd + 1 := by omega
    have HIT := Lib.hid (fun V => isTok_any ⟨k, 0, 0⟩ none 0 0 V)
    have hdv : d.v = .agg #[.slice d.ta d.toks.length d.tc, .slice d.na d.names.length d.nc, .slice d.aa d.alts.length d.ac] := rfl
    obtain ⟨T, HT⟩ : ∃ q, Hid (d.toks.length = q) := ⟨_, Lib.hid rfl⟩
    obtain ⟨N, HNm⟩ : ∃ q, Hid (d.names.length = q) := ⟨_, Lib.hid rfl⟩
    obtain ⟨L, HL⟩ : ∃ q, Hid (d.alts.length = q) := ⟨_, Lib.hid rfl⟩
    obtain ⟨SL, HSL⟩ : ∃ q, Hid (st.length = q) := ⟨_, Lib.hid rfl⟩
    rw [hdv] at HALT
    rw [HT.out, HNm.out, HL.out] at HALT
    rw [HT.out, HNm.out, HL.out, HSL.out] at HB1 HQB HQO HIH
    rw [HSL.out] at hs hsm HFK
    have HB1 := Lib.hid HB1
    have HN1 := Lib.hid HN1
    have HX1 := Lib.hid HX1
    have HG1 := Lib.hid HG1
    have HW1 := Lib.hid HW1
    clear hb0' hs1 hdv hB hW hnd
    go_enter Try.func98, Try.ntmps98
    go_wp2_with (fail)
    obtain ⟨b0, hb0⟩ : ∃ q, Hid (w.heap.size = q) := ⟨_, Lib.hid rfl⟩
    obtain ⟨b6, hb6⟩ : ∃ q, Hid (w.heap.size + 1 = q) := ⟨_, Lib.hid rfl⟩
    have hb06 : b0 < b6 := by have := hb0.out; have := hb6.out; omega
    generalize hV : World.alloc (World.alloc (World.setCell w _ _) _) _ = W1 at HB1 HN1 HX1 HG1 HW1 ⊢
    rw [hb6.out] at HX1 ⊢
    rw [hb0.out] at HN1 HBL ⊢
    clear hV y6 yf6 yl hngt hwn
    refine (HIT.out W1).mono ?_
    rintro e2 W2 ⟨rfl, hb⟩
    have HB2 := Lib.hid (HB1.out.below hb HB1.out.lt)
    have HN2 := Lib.hid (HN1.out.below hb HN1.out.lt)
    have HX2 := Lib.hid (HX1.out.below hb HX1.out.lt)
    have HG2 := Lib.hid (grownBy_trans HG1.out (below_grownBy hb (some gp)) (fun i e => .inl e))
    have HW2 := Lib.hid (HW1.out.trans (hb.mono HW1.out.size))
    clear hb HB1 HN1 HX1 HG1 HW1 HIT
    by_cases hk0 : 0 ≤ k
    · have e0 : decide (0 ≤ k) = true := decide_eq_true hk0
      have HRK := Lib.hid (HR3.out hk0)
      rw [e0]
      clear HR0 HR1 HR2 HR3 HALT
      have hN9 := blk_put4 ((HN2.out.setOther (b' := b6) (j := 2) (by omega) (.int .i64 (a : Int))).setOther (b' := gp) (j := 5) (by have := HBL.out; omega) (.int .i64 ((a : Int) + 1))) (.int .i64 k) (.int .i64 0) (.int .i64 (a : Int)) (.slice none 0 0)
      have hB9 := blk_oth4 ((HB2.out.setOther (b' := b6) (j := 2) (by have := HBL.out; omega) (.int .i64 (a : Int))).set 5 (.int .i64 ((a : Int) + 1))) (b' := b0) (by have := HBL.out; omega) (.int .i64 k) (.int .i64 0) (.int .i64 (a : Int)) (.slice none 0 0)
      have hG9 := grown_put4 (grownBy_trans (grownBy_trans HG2.out (grownBy_set W2 b6 2 (.int .i64 (a : Int))) (fun i e => by cases e; exact .inr (by have := hb0.out; omega))) (grownBy_set _ gp 5 (.int .i64 ((a : Int) + 1))) (fun i e => .inl e)) (b := b0) (by rw [hb0.out]; exact Nat.le_refl _) (.int .i64 k) (.int .i64 0) (.int .i64 (a : Int)) (.slice none 0 0)
      have y5 := HB2.out.cell 5
      have yf5 := HB2.out.frozen 5
      have yl := HB2.out.lt
      simp only [List.getElem?_cons_zero, List.getElem?_cons_succ] at y5
      have n0 := HN2.out.cell 0
      have n1 := HN2.out.cell 1
      have n2 := HN2.out.cell 2
      have n3 := HN2.out.cell 3
      have nf0 := HN2.out.frozen 0
      have nf1 := HN2.out.frozen 1
      have nf2 := HN2.out.frozen 2
      have nf3 := HN2.out.frozen 3
      have nl := HN2.out.lt
      simp only [List.getElem?_cons_zero, List.getElem?_cons_succ] at n0 n1 n2 n3
      have x0 := HX2.out.cell 0
      have x1 := HX2.out.cell 1
      have x2 := HX2.out.cell 2
      have x3 := HX2.out.cell 3
      have xf2 := HX2.out.frozen 2
      have xl := HX2.out.lt
      simp only [List.getElem?_cons_zero, List.getElem?_cons_succ] at x0 x1 x2 x3
      have hgb : gp < b0 := HBL.out
      go_wp2_with (fail)
      generalize World.setCell _ _ _ = WF at hN9 hB9 hG9 ⊢
      have g0 := hN9.cell 0
      have g1 := hN9.cell 1
      have g2 := hN9.cell 2
      have g3 := hN9.cell 3
      simp only [List.getElem?_cons_zero, List.getElem?_cons_succ] at g0 g1 g2 g3
      have HF := HQO.out WF ⟨k, 0, (a : Int), .nil⟩ s (a + 1) (left - 1) none 0 HRK.out hG9 (TrS.nil _ _) (by
        have h9 := HL9.out
        rw [show (20000 : Int) - ((left - 1 : Nat) : Int) = nd + 1 by omega, show (((a + 1 : Nat)) : Int) = (a : Int) + 1 by omega]
        exact hB9)
      exact bodyPost_ret (v := .tuple #[.agg #[.int .i64 k, .int .i64 0, .int .i64 (a : Int), .slice none 0 0], .int .i64 0]) (by simp [results, Try.results98, go_sem, g0, g1, g2, g3]) rfl HF
    · have e0 : decide (0 ≤ k) = false := decide_eq_false hk0
      rw [e0]
      have hkn : k < 0 := by omega
      have HR0 : Hid (st[s]? = none → RES = .bad s 110) := Lib.hid (fun h => HR0.out h hkn)
      have HR1 : Hid (∀ i, st[s]? = some i → altD d k i = none → RES = .bad s 110) := Lib.hid (fun i h h2 => HR1.out i h hkn h2)
      have HR2 : Hid (∀ i al, st[s]? = some i → altD d k i = some al → RES = (gwSeq F al.l (s + 1) a (left - 1)).bind fun l s a n => .ok ⟨k, i, 0, l⟩ s a n) := Lib.hid (fun i al h h2 => HR2.out i al h hkn h2)
      have HALT := Lib.hid (HALT.out hkn)
      clear HR3
      go_wp2_with (fail)
      have hb := (Below.refl W2.heap.size W2).drew
      have HB3 := Lib.hid (HB2.out.below hb HB2.out.lt)
      have HN3 := Lib.hid (HN2.out.below hb HN2.out.lt)
      have HX3 := Lib.hid (HX2.out.below hb HX2.out.lt)
      have HG3 := Lib.hid (grownBy_trans HG2.out (below_grownBy hb (some gp)) (fun i e => .inl e))
      have HW3 := Lib.hid (HW2.out.trans (hb.mono HW2.out.size))
      have HS3 : Hid ((W2.drew).cell? ⟨gp, 3, none⟩ = some (.slice sa SL sc) ∧ (W2.drew).cell? ⟨gp, 4, none⟩ = some (.int .i64 (s : Int))) := Lib.hid ⟨HB3.out.cell 3, HB3.out.cell 4⟩
      have hgl := HB3.out.lt
      clear hb HB2 HN2 HX2 HG2 HW2
      by_cases hsl : s = SL
      · have HRB : Hid (RES = .bad s 110) := Lib.hid (HR0.out (List.getElem?_eq_none (by rw [HSL.out]; omega)))
        have hsI : ((s : Int) == (SL : Int)) = true := by simp [hsl]
        refine wp_region_held_drew (S := fun w' => w'.cell? ⟨gp, 3, none⟩ = some (.slice sa SL sc) ∧ w'.cell? ⟨gp, 4, none⟩ = some (.int .i64 (s : Int))) (by kernel_rfl) ?_ (fun hHeld => ?_)
        · exact HS3.out
        generalize World.drew W2 = W3 at HS3 HB3 HN3 HX3 HG3 HW3 hHeld ⊢
        refine wpAnyH_take (i := 0) (v := ?_) (iatLS iatZS) (by kernel_rfl) (by kernel_rfl) (by kernel_rfl) (fun _ _ _ h => h) (Or.inl ⟨by rfl, ?_⟩) (by assumption) ?_
        rotate_left
        · intro w hSw
          try dsimp only at hSw
          go_simp
          all_goals with_reducible rfl
        try simp only [Act.put, List.setIfInBounds_toArray, List.set_cons_zero, List.set_cons_succ]
        refine wpAnyH_take (i := 1) (v := ?_) (iatLS (iatSS iatZS)) (by kernel_rfl) (by kernel_rfl) (by kernel_rfl) (fun _ _ _ h => h) (Or.inl ⟨by rfl, ?_⟩) (by assumption) ?_
        rotate_left
        · intro w hSw
          try dsimp only at hSw
          go_simp
          all_goals with_reducible rfl
        try simp only [Act.put, List.setIfInBounds_toArray, List.set_cons_zero, List.set_cons_succ]
        refine wpAnyH_take (i := 2) (v := ?_) (iatLS (iatSS (iatSS iatZS))) (by kernel_rfl) (by kernel_rfl) (by kernel_rfl) (fun _ _ _ h => h) (Or.inl ⟨by rfl, ?_⟩) (by assumption) ?_
        rotate_left
        · intro w hSw
          try dsimp only at hSw
          go_simp
          all_goals with_reducible rfl
        try simp only [Act.put, List.setIfInBounds_toArray, List.set_cons_zero, List.set_cons_succ]
        refine wpAnyH_take (i := 3) (v := ?_) (iatLS (iatSS (iatSS (iatSS iatZS)))) (by kernel_rfl) (by kernel_rfl) (by kernel_rfl) (fun _ _ _ h => h) (Or.inl ⟨by rfl, ?_⟩) (by assumption) ?_
        rotate_left
        · intro w hSw
          try dsimp only at hSw
          go_simp
          all_goals with_reducible rfl
        try simp only [Act.put, List.setIfInBounds_toArray, List.set_cons_zero, List.set_cons_succ]
        refine wpAnyH_take (i := 4) (v := ?_) (iatLS (iatSS (iatSS (iatSS (iatSS iatZS))))) (by kernel_rfl) (by kernel_rfl) (by kernel_rfl) (fun _ _ _ h => h) (Or.inl ⟨by rfl, ?_⟩) (by assumption) ?_
        rotate_left
        · intro w hSw
          try dsimp only at hSw
          go_simp
          all_goals with_reducible rfl
        try simp only [Act.put, List.setIfInBounds_toArray, List.set_cons_zero, List.set_cons_succ]
        refine wpAnyH_take (i := 5) (v := ?_) (iatLS (iatSS (iatSS (iatSS (iatSS (iatSS iatZS)))))) (by kernel_rfl) (by kernel_rfl) (by kernel_rfl) (fun _ _ _ h => h) (Or.inl ⟨by rfl, ?_⟩) (by assumption) ?_
        rotate_left
        · intro w hSw
          try dsimp only at hSw
          go_simp
          all_goals with_reducible rfl
        try simp only [Act.put, List.setIfInBounds_toArray, List.set_cons_zero, List.set_cons_succ]
        refine wpAnyH_take (i := 6) (v := ?_) (iatLS (iatSS (iatSS (iatSS (iatSS (iatSS (iatSS iatZS))))))) (by kernel_rfl) (by kernel_rfl) (by kernel_rfl) (fun _ _ _ h => h) (Or.inl ⟨by rfl, ?_⟩) (by assumption) ?_
        rotate_left
        · intro w hSw
          try dsimp only at hSw
          go_simp
          all_goals with_reducible rfl
        try simp only [Act.put, List.setIfInBounds_toArray, List.set_cons_zero, List.set_cons_succ]
        refine wpAnyH_take (i := 7) (v := ?_) (iatLS (iatSS (iatSS (iatSS (iatSS (iatSS (iatSS (iatSS iatZS)))))))) (by kernel_rfl) (by kernel_rfl) (by kernel_rfl) (fun _ _ _ h => h) (Or.inl ⟨by rfl, ?_⟩) (by assumption) ?_
        rotate_left
        · intro w hSw
          try dsimp only at hSw
          go_simp
          all_goals with_reducible rfl
        try simp only [Act.put, List.setIfInBounds_toArray, List.set_cons_zero, List.set_cons_succ]
        refine wpAnyH_take (i := 8) (v := ?_) (iatLS (iatSS (iatSS (iatSS (iatSS (iatSS (iatSS (iatSS (iatSS iatZS))))))))) (by kernel_rfl) (by kernel_rfl) (by kernel_rfl) (fun _ _ _ h => h) (Or.inl ⟨by rfl, ?_⟩) (by assumption) ?_
        rotate_left
        · intro w hSw
          try dsimp only at hSw
          go_simp
          all_goals with_reducible rfl
        try simp only [Act.put, List.setIfInBounds_toArray, List.set_cons_zero, List.set_cons_succ]
        refine wpAnyH_take (i := 9) (v := ?_) (iatLS (iatSS (iatSS (iatSS (iatSS (iatSS (iatSS (iatSS (iatSS (iatSS iatZS)))))))))) (by kernel_rfl) (by kernel_rfl) (by kernel_rfl) (fun _ _ _ h => h) (Or.inl ⟨by rfl, ?_⟩) (by assumption) ?_
        rotate_left
        · intro w hSw
          try dsimp only at hSw
          go_simp
          all_goals with_reducible rfl
        try simp only [Act.put, List.setIfInBounds_toArray, List.set_cons_zero, List.set_cons_succ]
        refine wpAnyH_done (by kernel_rfl) ?_ _
        clear HS3 hHeld
        have n0 := HN3.out.cell 0
        have n1 := HN3.out.cell 1
        have n2 := HN3.out.cell 2
        have n3 := HN3.out.cell 3
        have nf0 := HN3.out.frozen 0
        have nf1 := HN3.out.frozen 1
        have nf2 := HN3.out.frozen 2
        have nf3 := HN3.out.frozen 3
        have nl := HN3.out.lt
        simp only [List.getElem?_cons_zero, List.getElem?_cons_succ] at n0 n1 n2 n3
        go_wp2_with (fail)
        have hN9 := blk_put4 HN3.out (.int .i64 0) (.int .i64 0) (.int .i64 0) (.slice none 0 0)
        have hB9 := blk_oth4 HB3.out (b' := b0) (by have := HBL.out; omega) (.int .i64 0) (.int .i64 0) (.int .i64 0) (.slice none 0 0)
        have hG9 := grown_put4 HG3.out (b := b0) (by rw [hb0.out]; exact Nat.le_refl _) (.int .i64 0) (.int .i64 0) (.int .i64 0) (.slice none 0 0)
        generalize World.setCell _ _ _ = WF at hN9 hB9 hG9 ⊢
        have g0 := hN9.cell 0
        have g1 := hN9.cell 1
        have g2 := hN9.cell 2
        have g3 := hN9.cell 3
        simp only [List.getElem?_cons_zero, List.getElem?_cons_succ] at g0 g1 g2 g3
        have HF := HQB.out WF s 110 a (nd + 1) HRB.out (by first | omega | exact HX9n.out) hG9 hB9
        exact bodyPost_ret (v := .tuple #[.agg #[.int .i64 0, .int .i64 0, .int .i64 0, .slice none 0 0], .int .i64 110]) (by simp [results, Try.results98, go_sem, g0, g1, g2, g3]) rfl HF
      have hsI : ((s : Int) == (SL : Int)) = false := by rw [beq_eq_false_iff_ne]; omega
      have hslt : s < st.length := by rw [HSL.out]; omega
      obtain ⟨z, zo, hz⟩ := Hst.out.at_ s (by rw [List.length_map]; exact hslt)
      have cz := Hst.out.cell z zo hz s (by rw [List.length_map]; exact hslt)
      rw [List.getElem_map] at cz
      obtain ⟨i, hi⟩ : ∃ q, Hid (st[s] = q) := ⟨_, Lib.hid rfl⟩
      rw [hi.out] at cz
      have HST : Hid (st[s]? = some i) := Lib.hid (by rw [List.getElem?_eq_getElem hslt, hi.out])
      have HCZ := Lib.hid cz
      obtain ⟨AV, hAV⟩ : ∃ q, Hid (altRv (altD d k i) = q) := ⟨_, Lib.hid rfl⟩
      obtain ⟨AB, hAB⟩ : ∃ q, Hid ((altD d k i).isSome = q) := ⟨_, Lib.hid rfl⟩
      have HALTi : Hid (∀ W, Below W0.heap.size W0 W → Calls Try.prog 132 #[.agg #[.slice d.ta T d.tc, .slice d.na N d.nc, .slice d.aa L d.ac], .int .i64 k, .int .i64 i] W fun e W' => e = .returned (.tuple #[AV, .bool AB]) ∧ Below W.heap.size W W') := Lib.hid (fun W hb => by
        have h9 := HALT.out W hb i
        rwa [altR_eq, hAV.out, hAB.out] at h9)
      clear HALT
      have hslI0 : (0 : Int) ≤ (s : Int) := by omega
      have hslI1 : (s : Int) < (SL : Int) := by omega
      subst hz
      clear cz
      refine wp_region_held_drew (S := fun w' => w'.cell? ⟨gp, 3, none⟩ = some (.slice (some ⟨z, zo, none⟩) SL sc) ∧ w'.cell? ⟨gp, 4, none⟩ = some (.int .i64 (s : Int))) (by kernel_rfl) ?_ (fun hHeld => ?_)
      · exact HS3.out
      generalize World.drew W2 = W3 at HS3 HB3 HN3 HX3 HG3 HW3 hHeld ⊢
      refine wpAnyH_take (i := 0) (v := ?_) (iatLS iatZS) (by kernel_rfl) (by kernel_rfl) (by kernel_rfl) (fun _ _ _ h => h) (Or.inl ⟨by rfl, ?_⟩) (by assumption) ?_
      rotate_left
      · intro w hSw
        try dsimp only at hSw
        go_simp
        all_goals with_reducible rfl
      try simp only [Act.put, List.setIfInBounds_toArray, List.set_cons_zero, List.set_cons_succ]
      refine wpAnyH_take (i := 1) (v := ?_) (iatLS (iatSS iatZS)) (by kernel_rfl) (by kernel_rfl) (by kernel_rfl) (fun _ _ _ h => h) (Or.inl ⟨by rfl, ?_⟩) (by assumption) ?_
      rotate_left
      · intro w hSw
        try dsimp only at hSw
        go_simp
        all_goals with_reducible rfl
      try simp only [Act.put, List.setIfInBounds_toArray, List.set_cons_zero, List.set_cons_succ]
      refine wpAnyH_take (i := 2) (v := ?_) (iatLS (iatSS (iatSS iatZS))) (by kernel_rfl) (by kernel_rfl) (by kernel_rfl) (fun _ _ _ h => h) (Or.inl ⟨by rfl, ?_⟩) (by assumption) ?_
      rotate_left
      · intro w hSw
        try dsimp only at hSw
        go_simp
        all_goals with_reducible rfl
      try simp only [Act.put, List.setIfInBounds_toArray, List.set_cons_zero, List.set_cons_succ]
      refine wpAnyH_take (i := 3) (v := ?_) (iatLS (iatSS (iatSS (iatSS iatZS)))) (by kernel_rfl) (by kernel_rfl) (by kernel_rfl) (fun _ _ _ h => h) (Or.inl ⟨by rfl, ?_⟩) (by assumption) ?_
      rotate_left
      · intro w hSw
        try dsimp only at hSw
        go_simp
        all_goals with_reducible rfl
      try simp only [Act.put, List.setIfInBounds_toArray, List.set_cons_zero, List.set_cons_succ]
      refine wpAnyH_take (i := 4) (v := ?_) (iatLS (iatSS (iatSS (iatSS (iatSS iatZS))))) (by kernel_rfl) (by kernel_rfl) (by kernel_rfl) (fun _ _ _ h => h) (Or.inl ⟨by rfl, ?_⟩) (by assumption) ?_
      rotate_left
      · intro w hSw
        try dsimp only at hSw
        go_simp
        all_goals with_reducible rfl
      try simp only [Act.put, List.setIfInBounds_toArray, List.set_cons_zero, List.set_cons_succ]
      refine wpAnyH_take (i := 5) (v := ?_) (iatLS (iatSS (iatSS (iatSS (iatSS (iatSS iatZS)))))) (by kernel_rfl) (by kernel_rfl) (by kernel_rfl) (fun _ _ _ h => h) (Or.inl ⟨by rfl, ?_⟩) (by assumption) ?_
      rotate_left
      · intro w hSw
        try dsimp only at hSw
        go_simp
        all_goals with_reducible rfl
      try simp only [Act.put, List.setIfInBounds_toArray, List.set_cons_zero, List.set_cons_succ]
      refine wpAnyH_take (i := 6) (v := ?_) (iatLS (iatSS (iatSS (iatSS (iatSS (iatSS (iatSS iatZS))))))) (by kernel_rfl) (by kernel_rfl) (by kernel_rfl) (fun _ _ _ h => h) (Or.inl ⟨by rfl, ?_⟩) (by assumption) ?_
      rotate_left
      · intro w hSw
        try dsimp only at hSw
        go_simp
        all_goals with_reducible rfl
      try simp only [Act.put, List.setIfInBounds_toArray, List.set_cons_zero, List.set_cons_succ]
      refine wpAnyH_take (i := 7) (v := ?_) (iatLS (iatSS (iatSS (iatSS (iatSS (iatSS (iatSS (iatSS iatZS)))))))) (by kernel_rfl) (by kernel_rfl) (by kernel_rfl) (fun _ _ _ h => h) (Or.inl ⟨by rfl, ?_⟩) (by assumption) ?_
      rotate_left
      · intro w hSw
        try dsimp only at hSw
        go_simp
        all_goals with_reducible rfl
      try simp only [Act.put, List.setIfInBounds_toArray, List.set_cons_zero, List.set_cons_succ]
      refine wpAnyH_take (i := 8) (v := ?_) (iatLS (iatSS (iatSS (iatSS (iatSS (iatSS (iatSS (iatSS (iatSS iatZS))))))))) (by kernel_rfl) (by kernel_rfl) (by kernel_rfl) (fun _ _ _ h => h) (Or.inl ⟨by rfl, ?_⟩) (by assumption) ?_
      rotate_left
      · intro w hSw
        try dsimp only at hSw
        go_simp
        all_goals with_reducible rfl
      try simp only [Act.put, List.setIfInBounds_toArray, List.set_cons_zero, List.set_cons_succ]
      refine wpAnyH_take (i := 9) (v := ?_) (iatLS (iatSS (iatSS (iatSS (iatSS (iatSS (iatSS (iatSS (iatSS (iatSS iatZS)))))))))) (by kernel_rfl) (by kernel_rfl) (by kernel_rfl) (fun _ _ _ h => h) (Or.inl ⟨by rfl, ?_⟩) (by assumption) ?_
      rotate_left
      · intro w hSw
        try dsimp only at hSw
        go_simp
        all_goals with_reducible rfl
      try simp only [Act.put, List.setIfInBounds_toArray, List.set_cons_zero, List.set_cons_succ]
      refine wpAnyH_done (by kernel_rfl) ?_ _
      clear HS3 hHeld
      go_wp2_with (fail)
      have hb := (Below.refl W3.heap.size W3).drew
      have HB4 := Lib.hid (HB3.out.below hb HB3.out.lt)
      have HN4 := Lib.hid (HN3.out.below hb HN3.out.lt)
      have HX4 := Lib.hid (HX3.out.below hb HX3.out.lt)
      have HG4 := Lib.hid (grownBy_trans HG3.out (below_grownBy hb (some gp)) (fun i e => .inl e))
      have HW4 := Lib.hid (HW3.out.trans (hb.mono HW3.out.size))
      have HS4 : Hid ((W3.drew).cell? ⟨gp, 3, none⟩ = some (.slice (some ⟨z, zo, none⟩) SL sc) ∧ (W3.drew).cell? ⟨gp, 4, none⟩ = some (.int .i64 (s : Int)) ∧ (W3.drew).cell? ⟨z, zo + s, none⟩ = some (.int .i64 i)) := Lib.hid ⟨HB4.out.cell 3, HB4.out.cell 4, cell_up HW4.out HCZ.out⟩
      have hbz := World.block_lt_of_cell? _ _ (cell_up HW4.out HCZ.out)
      clear hb HB3 HN3 HX3 HG3 HW3
      refine wp_region_held_drew (S := fun w' => w'.cell? ⟨gp, 3, none⟩ = some (.slice (some ⟨z, zo, none⟩) SL sc) ∧ w'.cell? ⟨gp, 4, none⟩ = some (.int .i64 (s : Int)) ∧ w'.cell? ⟨z, zo + s, none⟩ = some (.int .i64 i)) (by kernel_rfl) ?_ (fun hHeld => ?_)
      · exact HS4.out
      generalize World.drew W3 = W4 at HS4 HB4 HN4 HX4 HG4 HW4 hHeld ⊢
      refine wpAnyH_take (i := 0) (v := ?_) (iatLS iatZS) (by kernel_rfl) (by kernel_rfl) (by kernel_rfl) (fun _ _ _ h => h) (Or.inl ⟨by rfl, ?_⟩) (by assumption) ?_
      rotate_left
      · intro w hSw
        try dsimp only at hSw
        go_simp
        all_goals with_reducible rfl
      try simp only [Act.put, List.setIfInBounds_toArray, List.set_cons_zero, List.set_cons_succ]
      refine wpAnyH_take (i := 1) (v := ?_) (iatLS (iatSS iatZS)) (by kernel_rfl) (by kernel_rfl) (by kernel_rfl) (fun _ _ _ h => h) (Or.inl ⟨by rfl, ?_⟩) (by assumption) ?_
      rotate_left
      · intro w hSw
        try dsimp only at hSw
        go_simp
        all_goals with_reducible rfl
      try simp only [Act.put, List.setIfInBounds_toArray, List.set_cons_zero, List.set_cons_succ]
      refine wpAnyH_take (i := 2) (v := ?_) (iatLS (iatSS (iatSS iatZS))) (by kernel_rfl) (by kernel_rfl) (by kernel_rfl) (fun _ _ _ h => h) (Or.inl ⟨by rfl, ?_⟩) (by assumption) ?_
      rotate_left
      · intro w hSw
        try dsimp only at hSw
        go_simp
        all_goals with_reducible rfl
      try simp only [Act.put, List.setIfInBounds_toArray, List.set_cons_zero, List.set_cons_succ]
      refine wpAnyH_take (i := 3) (v := ?_) (iatLS (iatSS (iatSS (iatSS iatZS)))) (by kernel_rfl) (by kernel_rfl) (by kernel_rfl) (fun _ _ _ h => h) (Or.inl ⟨by rfl, ?_⟩) (by assumption) ?_
      rotate_left
      · intro w hSw
        try dsimp only at hSw
        go_simp
        all_goals with_reducible rfl
      try simp only [Act.put, List.setIfInBounds_toArray, List.set_cons_zero, List.set_cons_succ]
      refine wpAnyH_take (i := 4) (v := ?_) (iatLS (iatSS (iatSS (iatSS (iatSS iatZS))))) (by kernel_rfl) (by kernel_rfl) (by kernel_rfl) (fun _ _ _ h => h) (Or.inl ⟨by rfl, ?_⟩) (by assumption) ?_
      rotate_left
      · intro w hSw
        try dsimp only at hSw
        go_simp
        all_goals with_reducible rfl
      try simp only [Act.put, List.setIfInBounds_toArray, List.set_cons_zero, List.set_cons_succ]
      refine wpAnyH_take (i := 5) (v := ?_) (iatLS (iatSS (iatSS (iatSS (iatSS (iatSS iatZS)))))) (by kernel_rfl) (by kernel_rfl) (by kernel_rfl) (fun _ _ _ h => h) (Or.inl ⟨by rfl, ?_⟩) (by assumption) ?_
      rotate_left
      · intro w hSw
        try dsimp only at hSw
        go_simp
        all_goals with_reducible rfl
      try simp only [Act.put, List.setIfInBounds_toArray, List.set_cons_zero, List.set_cons_succ]
      refine wpAnyH_take (i := 6) (v := ?_) (iatLS (iatSS (iatSS (iatSS (iatSS (iatSS (iatSS iatZS))))))) (by kernel_rfl) (by kernel_rfl) (by kernel_rfl) (fun _ _ _ h => h) (Or.inl ⟨by rfl, ?_⟩) (by assumption) ?_
      rotate_left
      · intro w hSw
        try dsimp only at hSw
        go_simp
        all_goals with_reducible rfl
      try simp only [Act.put, List.setIfInBounds_toArray, List.set_cons_zero, List.set_cons_succ]
      refine wpAnyH_take (i := 7) (v := ?_) (iatLS (iatSS (iatSS (iatSS (iatSS (iatSS (iatSS (iatSS iatZS)))))))) (by kernel_rfl) (by kernel_rfl) (by kernel_rfl) (fun _ _ _ h => h) (Or.inl ⟨by rfl, ?_⟩) (by assumption) ?_
      rotate_left
      · intro w hSw
        try dsimp only at hSw
        go_simp
        all_goals with_reducible rfl
      try simp only [Act.put, List.setIfInBounds_toArray, List.set_cons_zero, List.set_cons_succ]
      refine wpAnyH_take (i := 8) (v := ?_) (iatLS (iatSS (iatSS (iatSS (iatSS (iatSS (iatSS (iatSS (iatSS iatZS))))))))) (by kernel_rfl) (by kernel_rfl) (by kernel_rfl) (fun _ _ _ h => h) (Or.inl ⟨by rfl, ?_⟩) (by assumption) ?_
      rotate_left
      · intro w hSw
        try dsimp only at hSw
        go_simp
        all_goals with_reducible rfl
      try simp only [Act.put, List.setIfInBounds_toArray, List.set_cons_zero, List.set_cons_succ]
      refine wpAnyH_take (i := 9) (v := ?_) (iatLS (iatSS (iatSS (iatSS (iatSS (iatSS (iatSS (iatSS (iatSS (iatSS iatZS)))))))))) (by kernel_rfl) (by kernel_rfl) (by kernel_rfl) (fun _ _ _ h => h) (Or.inl ⟨by rfl, ?_⟩) (by assumption) ?_
      rotate_left
      · intro w hSw
        try dsimp only at hSw
        go_simp
        all_goals with_reducible rfl
      try simp only [Act.put, List.setIfInBounds_toArray, List.set_cons_zero, List.set_cons_succ]
      refine wpAnyH_take (i := 10) (v := ?_) (iatLS (iatSS (iatSS (iatSS (iatSS (iatSS (iatSS (iatSS (iatSS (iatSS (iatSS iatZS))))))))))) (by kernel_rfl) (by kernel_rfl) (by kernel_rfl) (fun _ _ _ h => h) (Or.inl ⟨by rfl, ?_⟩) (by assumption) ?_
      rotate_left
      · intro w hSw
        try dsimp only at hSw
        go_simp
        all_goals with_reducible rfl
      try simp only [Act.put, List.setIfInBounds_toArray, List.set_cons_zero, List.set_cons_succ]
      refine wpAnyH_ready (rs := [11]) (by kernel_rfl) (by simp) ?_
      refine AllReadyH.cons (iatLS (iatSS (iatSS (iatSS (iatSS (iatSS (iatSS (iatSS (iatSS (iatSS (iatSS (iatSS iatZS)))))))))))) (fun K hK => ?_) AllReadyH.nil
      have q1 := HX4.out.cell 1
      have qf1 := HX4.out.frozen 1
      have ql := HX4.out.lt
      simp only [List.getElem?_cons_zero, List.getElem?_cons_succ] at q1
      go_simp
      have hX5 := HX4.out.set 1 (.int .i64 i)
      have hB5 := HB4.out.setOther (b' := b6) (j := 1) (by have := HBL.out; omega) (.int .i64 i)
      have hN5 := HN4.out.setOther (b' := b6) (j := 1) (by omega) (.int .i64 i)
      have hG5 := grownBy_trans HG4.out (grownBy_set W4 b6 1 (.int .i64 i)) (fun i e => by cases e; exact .inr (by have := hb0.out; omega))
      have hW5 := HW4.out.setCell (p := ⟨b6, 1, none⟩) (by have := HBL.out; dsimp only; omega) (.int .i64 i)
      have hc5 := cell_up HW4.out HCZ.out
      have hc6 : (W4.setCell ⟨b6, 1, none⟩ (.int .i64 i)).cell? ⟨z, zo + s, none⟩ = some (.int .i64 i) := cell_up hW5 HCZ.out
      generalize World.setCell W4 _ _ = W5 at hX5 hB5 hN5 hG5 hW5 hc6 ⊢
      have HX5 := Lib.hid hX5
      have HB5 := Lib.hid hB5
      have HN5 := Lib.hid hN5
      have HG5 := Lib.hid hG5
      have HW5 := Lib.hid hW5
      have HS5 : Hid (W5.cell? ⟨gp, 3, none⟩ = some (.slice (some ⟨z, zo, none⟩) SL sc) ∧ W5.cell? ⟨gp, 4, none⟩ = some (.int .i64 (s : Int)) ∧ W5.cell? ⟨z, zo + s, none⟩ = some (.int .i64 i)) := Lib.hid ⟨hB5.cell 3, hB5.cell 4, hc6⟩
      clear hX5 hB5 hN5 hG5 hW5 hc5 hc6 q1 qf1 ql
      refine hK.out _ _ ?_ (fun hHeld => ?_)
      · exact HS5.out
      clear hK K
      try simp only [Act.put, List.setIfInBounds_toArray, List.set_cons_zero, List.set_cons_succ]
      refine wpAnyH_done (by kernel_rfl) ?_ _
      clear HS4 HS5 hHeld
      go_upto_region 12 with fail
      obtain ⟨W5s, hW5s⟩ : ∃ q, q = W5 := ⟨_, rfl⟩
      rw [← hW5s] at HB5 HN5 HX5 HG5 HW5 ⊢
      clear hW5s
      have hb := (Below.refl W5s.heap.size W5s).drew
      have HB5d := Lib.hid (HB5.out.below hb HB5.out.lt)
      have HN5d := Lib.hid (HN5.out.below hb HN5.out.lt)
      have HX5d := Lib.hid (HX5.out.below hb HX5.out.lt)
      have HG5d := Lib.hid (grownBy_trans HG5.out (below_grownBy hb (some gp)) (fun i e => .inl e))
      have HW5d := Lib.hid (HW5.out.trans (hb.mono HW5.out.size))
      clear hb HB5 HN5 HX5 HG5 HW5
      have HB5 := HB5d
      have HN5 := HN5d
      have HX5 := HX5d
      have HG5 := HG5d
      have HW5 := HW5d
      clear HB5d HN5d HX5d HG5d HW5d
      have HS5 : Hid ((W5s.drew).cell? ⟨gp, 0, none⟩ = some (.slice d.ta T d.tc) ∧ (W5s.drew).cell? ⟨gp, 1, none⟩ = some (.slice d.na N d.nc) ∧ (W5s.drew).cell? ⟨gp, 2, none⟩ = some (.slice d.aa L d.ac) ∧ (W5s.drew).cell? ⟨b6, 1, none⟩ = some (.int .i64 i)) := Lib.hid ⟨HB5.out.cell 0, HB5.out.cell 1, HB5.out.cell 2, HX5.out.cell 1⟩
      refine wp_region_held_drew (S := fun w' => w'.cell? ⟨gp, 0, none⟩ = some (.slice d.ta T d.tc) ∧ w'.cell? ⟨gp, 1, none⟩ = some (.slice d.na N d.nc) ∧ w'.cell? ⟨gp, 2, none⟩ = some (.slice d.aa L d.ac) ∧ w'.cell? ⟨b6, 1, none⟩ = some (.int .i64 i)) (by kernel_rfl) ?_ (fun hHeld => ?_)
      · exact HS5.out
      generalize World.drew W5s = W5 at HS5 HB5 HN5 HX5 HG5 HW5 hHeld ⊢
      refine wpAnyH_take (i := 0) (v := ?_) (iatLS iatZS) (by kernel_rfl) (by kernel_rfl) (by kernel_rfl) (fun _ _ _ h => h) (Or.inl ⟨by rfl, ?_⟩) (by assumption) ?_
      rotate_left
      · intro w hSw
        try dsimp only at hSw
        go_simp
        all_goals with_reducible rfl
      try simp only [Act.put, List.setIfInBounds_toArray, List.set_cons_zero, List.set_cons_succ]
      refine wpAnyH_take (i := 1) (v := ?_) (iatLS (iatSS iatZS)) (by kernel_rfl) (by kernel_rfl) (by kernel_rfl) (fun _ _ _ h => h) (Or.inl ⟨by rfl, ?_⟩) (by assumption) ?_
      rotate_left
      · intro w hSw
        try dsimp only at hSw
        go_simp
        all_goals with_reducible rfl
      try simp only [Act.put, List.setIfInBounds_toArray, List.set_cons_zero, List.set_cons_succ]
      refine wpAnyH_take (i := 2) (v := ?_) (iatLS (iatSS (iatSS iatZS))) (by kernel_rfl) (by kernel_rfl) (by kernel_rfl) (fun _ _ _ h => h) (Or.inl ⟨by rfl, ?_⟩) (by assumption) ?_
      rotate_left
      · intro w hSw
        try dsimp only at hSw
        go_simp
        all_goals with_reducible rfl
      try simp only [Act.put, List.setIfInBounds_toArray, List.set_cons_zero, List.set_cons_succ]
      refine wpAnyH_take (i := 3) (v := ?_) (iatLS (iatSS (iatSS (iatSS iatZS)))) (by kernel_rfl) (by kernel_rfl) (by kernel_rfl) (fun _ _ _ h => h) (Or.inl ⟨by rfl, ?_⟩) (by assumption) ?_
      rotate_left
      · intro w hSw
        try dsimp only at hSw
        go_simp
        all_goals with_reducible rfl
      try simp only [Act.put, List.setIfInBounds_toArray, List.set_cons_zero, List.set_cons_succ]
      refine wpAnyH_take (i := 4) (v := ?_) (iatLS (iatSS (iatSS (iatSS (iatSS iatZS))))) (by kernel_rfl) (by kernel_rfl) (by kernel_rfl) (fun _ _ _ h => h) (Or.inl ⟨by rfl, ?_⟩) (by assumption) ?_
      rotate_left
      · intro w hSw
        try dsimp only at hSw
        go_simp
        all_goals with_reducible rfl
      try simp only [Act.put, List.setIfInBounds_toArray, List.set_cons_zero, List.set_cons_succ]
      refine wpAnyH_take (i := 5) (v := ?_) (iatLS (iatSS (iatSS (iatSS (iatSS (iatSS iatZS)))))) (by kernel_rfl) (by kernel_rfl) (by kernel_rfl) (fun _ _ _ h => h) (Or.inl ⟨by rfl, ?_⟩) (by assumption) ?_
      rotate_left
      · intro w hSw
        try dsimp only at hSw
        go_simp
        all_goals with_reducible rfl
      try simp only [Act.put, List.setIfInBounds_toArray, List.set_cons_zero, List.set_cons_succ]
      refine wpAnyH_take (i := 6) (v := ?_) (iatLS (iatSS (iatSS (iatSS (iatSS (iatSS (iatSS iatZS))))))) (by kernel_rfl) (by kernel_rfl) (by kernel_rfl) (fun _ _ _ h => h) (Or.inl ⟨by rfl, ?_⟩) (by assumption) ?_
      rotate_left
      · intro w hSw
        try dsimp only at hSw
        go_simp
        all_goals with_reducible rfl
      try simp only [Act.put, List.setIfInBounds_toArray, List.set_cons_zero, List.set_cons_succ]
      refine wpAnyH_ready (rs := [7]) (by kernel_rfl) (by simp) ?_
      refine AllReadyH.cons (iatLS (iatSS (iatSS (iatSS (iatSS (iatSS (iatSS (iatSS iatZS)))))))) (fun K hK => ?_) AllReadyH.nil
      go_simp
      (with_reducible refine (HALTi.out W5 HW5.out).mono ?_)
      rintro e9 W6 ⟨rfl, hb⟩
      have HB6 := Lib.hid (HB5.out.below hb HB5.out.lt)
      have HN6 := Lib.hid (HN5.out.below hb HN5.out.lt)
      have HX6 := Lib.hid (HX5.out.below hb HX5.out.lt)
      have HG6 := Lib.hid (grownBy_trans HG5.out (below_grownBy hb (some gp)) (fun i e => .inl e))
      have HW6 := Lib.hid (HW5.out.trans (hb.mono HW5.out.size))
      have HS6 : Hid (W6.cell? ⟨gp, 0, none⟩ = some (.slice d.ta T d.tc) ∧ W6.cell? ⟨gp, 1, none⟩ = some (.slice d.na N d.nc) ∧ W6.cell? ⟨gp, 2, none⟩ = some (.slice d.aa L d.ac) ∧ W6.cell? ⟨b6, 1, none⟩ = some (.int .i64 i)) := Lib.hid ⟨HB6.out.cell 0, HB6.out.cell 1, HB6.out.cell 2, HX6.out.cell 1⟩
      clear hb
      try dsimp only
      refine hK.out _ _ ?_ (fun hHeld => ?_)
      · exact HS6.out
      clear hK K
      try simp only [Act.put, List.setIfInBounds_toArray, List.set_cons_zero, List.set_cons_succ]
      refine wpAnyH_take (i := 8) (v := ?_) (iatLS (iatSS (iatSS (iatSS (iatSS (iatSS (iatSS (iatSS (iatSS iatZS))))))))) (by kernel_rfl) (by kernel_rfl) (by kernel_rfl) (fun _ _ _ h => h) (Or.inl ⟨by rfl, ?_⟩) (by assumption) ?_
      rotate_left
      · intro w hSw
        try dsimp only at hSw
        go_simp
        all_goals with_reducible rfl
      try simp only [Act.put, List.setIfInBounds_toArray, List.set_cons_zero, List.set_cons_succ]
      refine wpAnyH_take (i := 9) (v := ?_) (iatLS (iatSS (iatSS (iatSS (iatSS (iatSS (iatSS (iatSS (iatSS (iatSS iatZS)))))))))) (by kernel_rfl) (by kernel_rfl) (by kernel_rfl) (fun _ _ _ h => h) (Or.inl ⟨by rfl, ?_⟩) (by assumption) ?_
      rotate_left
      · intro w hSw
        try dsimp only at hSw
        go_simp
        all_goals with_reducible rfl
      try simp only [Act.put, List.setIfInBounds_toArray, List.set_cons_zero, List.set_cons_succ]
      refine wpAnyH_take (i := 10) (v := ?_) (iatLS (iatSS (iatSS (iatSS (iatSS (iatSS (iatSS (iatSS (iatSS (iatSS (iatSS iatZS))))))))))) (by kernel_rfl) (by kernel_rfl) (by kernel_rfl) (fun _ _ _ h => h) (Or.inl ⟨by rfl, ?_⟩) (by assumption) ?_
      rotate_left
      · intro w hSw
        try dsimp only at hSw
        go_simp
        all_goals with_reducible rfl
      try simp only [Act.put, List.setIfInBounds_toArray, List.set_cons_zero, List.set_cons_succ]
      refine wpAnyH_take (i := 11) (v := ?_) (iatLS (iatSS (iatSS (iatSS (iatSS (iatSS (iatSS (iatSS (iatSS (iatSS (iatSS (iatSS iatZS)))))))))))) (by kernel_rfl) (by kernel_rfl) (by kernel_rfl) (fun _ _ _ h => h) (Or.inl ⟨by rfl, ?_⟩) (by assumption) ?_
      rotate_left
      · intro w hSw
        try dsimp only at hSw
        go_simp
        all_goals with_reducible rfl
      try simp only [Act.put, List.setIfInBounds_toArray, List.set_cons_zero, List.set_cons_succ]
      refine wpAnyH_take (i := 12) (v := ?_) (iatLS (iatSS (iatSS (iatSS (iatSS (iatSS (iatSS (iatSS (iatSS (iatSS (iatSS (iatSS (iatSS iatZS))))))))))))) (by kernel_rfl) (by kernel_rfl) (by kernel_rfl) (fun _ _ _ h => h) (Or.inl ⟨by rfl, ?_⟩) (by assumption) ?_
      rotate_left
      · intro w hSw
        try dsimp only at hSw
        go_simp
        all_goals with_reducible rfl
      try simp only [Act.put, List.setIfInBounds_toArray, List.set_cons_zero, List.set_cons_succ]
      refine wpAnyH_done (by kernel_rfl) ?_ _
      cases hal : altD d k i with
      | none =>
        have HRB : Hid (RES = .bad s 110) := Lib.hid (HR1.out i HST.out hal)
        obtain rfl : AV = .slice none 0 0 := by rw [← hAV.out, hal]; rfl
        obtain rfl : AB = false := by rw [← hAB.out, hal]; rfl
        have n0 := HN6.out.cell 0
        have n1 := HN6.out.cell 1
        have n2 := HN6.out.cell 2
        have n3 := HN6.out.cell 3
        have nf0 := HN6.out.frozen 0
        have nf1 := HN6.out.frozen 1
        have nf2 := HN6.out.frozen 2
        have nf3 := HN6.out.frozen 3
        have nl := HN6.out.lt
        simp only [List.getElem?_cons_zero, List.getElem?_cons_succ] at n0 n1 n2 n3
        go_wp2_with (fail)
        have hN9 := blk_put4 HN6.out (.int .i64 0) (.int .i64 0) (.int .i64 0) (.slice none 0 0)
        have hB9 := blk_oth4 HB6.out (b' := b0) (by have := HBL.out; omega) (.int .i64 0) (.int .i64 0) (.int .i64 0) (.slice none 0 0)
        have hG9 := grown_put4 HG6.out (b := b0) (by rw [hb0.out]; exact Nat.le_refl _) (.int .i64 0) (.int .i64 0) (.int .i64 0) (.slice none 0 0)
        generalize World.setCell _ _ _ = WF at hN9 hB9 hG9 ⊢
        have g0 := hN9.cell 0
        have g1 := hN9.cell 1
        have g2 := hN9.cell 2
        have g3 := hN9.cell 3
        simp only [List.getElem?_cons_zero, List.getElem?_cons_succ] at g0 g1 g2 g3
        have HF := HQB.out WF s 110 a (nd + 1) HRB.out (by first | omega | exact HX9n.out) hG9 hB9
        exact bodyPost_ret (v := .tuple #[.agg #[.int .i64 0, .int .i64 0, .int .i64 0, .slice none 0 0], .int .i64 110]) (by simp [results, Try.results98, go_sem, g0, g1, g2, g3]) rfl HF
      | some al =>
        have HRES := Lib.hid (HR2.out i al HST.out hal)
        obtain ⟨xl, xa, xc⟩ := al
        obtain ⟨ru, hrm9, hal9⟩ := altD_mem hal
        have hI := (Hd.out.rules ru hrm9).nms _ hal9
        have hrn := Hrg.out ru hrm9 _ hal9
        dsimp only at hI hrn HRES
        have hxm : xl.length ≤ xc ∧ xc ≤ 9223372036854775807 := ⟨by have := hI.le; rwa [List.length_map] at this, hI.max⟩
        have HI := Lib.hid hI
        have HRN := Lib.hid hrn
        obtain ⟨M, hM⟩ : ∃ q, Hid (xl.length = q) := ⟨_, Lib.hid rfl⟩
        rw [hM.out] at hxm
        obtain ⟨SQ, HSQ⟩ : ∃ q : GwR TrF, Hid (gwSeq F xl (s + 1) a (left - 1) = q) := ⟨_, Lib.hid rfl⟩
        rw [HSQ.out] at HRES
        have HB7 := HB6.out.set 4 (.int .i64 ((s : Int) + 1))
        have HN7 := HN6.out.setOther (b' := gp) (j := 4) (by have := HBL.out; omega) (.int .i64 ((s : Int) + 1))
        have HX7 := HX6.out.setOther (b' := gp) (j := 4) (by have := HBL.out; omega) (.int .i64 ((s : Int) + 1))
        have HG7 := grownBy_trans HG6.out (grownBy_set W6 gp 4 (.int .i64 ((s : Int) + 1))) (fun i e => .inl e)
        have HW7 := HW6.out.setCell (p := ⟨gp, 4, none⟩) hgp (.int .i64 ((s : Int) + 1))
        have y4 := HB6.out.cell 4
        have yf4 := HB6.out.frozen 4
        have yl := HB6.out.lt
        simp only [List.getElem?_cons_zero, List.getElem?_cons_succ] at y4
        obtain rfl : AV = .slice xa xl.length xc := by rw [← hAV.out, hal]; rfl
        obtain rfl : AB = true := by rw [← hAB.out, hal]; rfl
        rw [hM.out]
        clear hI hrn hal hAV hAB HS6 hHeld
        go_wp2_with (fail)
        generalize hV : World.setCell W6 _ _ = W7 at HB7 HN7 HX7 HG7 HW7 ⊢
        obtain ⟨base, hbase⟩ : ∃ q, Hid (W7.heap.size = q) := ⟨_, Lib.hid rfl⟩
        have hb6b : b6 < base := by rw [← hbase.out]; exact HX7.lt
        have hbase0 : base ≤ W7.heap.size := by rw [hbase.out]; exact Nat.le_refl _
        have HX6' := Lib.hid HX7
        have HN6' := Lib.hid HN7
        have HG6' := Lib.hid HG7
        have HW6' := Lib.hid HW7
        have HB6' : Hid (Blk W7 gp 119 [.slice d.ta T d.tc, .slice d.na N d.nc, .slice d.aa L d.ac, .slice (some ⟨z, zo, none⟩) SL sc, .int .i64 ((s + 1 : Nat) : Int), .int .i64 (a : Int), .int .i64 (20000 - ((left - 1 : Nat) : Int))]) := Lib.hid (by
          have h9 := HL9.out
          rw [show (20000 : Int) - ((left - 1 : Nat) : Int) = nd + 1 by omega, show (((s + 1 : Nat)) : Int) = (s : Int) + 1 by omega]
          exact HB7)
        clear HB6 HN6 HX6 HG6 HW6 HB7 HN7 HX7 HG7 HW7 hV y4 yf4 yl hbase
        have HB6 := HB6'
        have HN6 := HN6'
        have HX6 := HX6'
        have HG6 := HG6'
        have HW6 := HW6'
        clear HB6' HN6' HX6' HG6' HW6'
        go_loopg [10, 11, 12, 88] M (fun gk _ _ _ iv wr => ∃ (j : Nat) (ga : Option Addr) (gc : Nat) (Lf : TrF) (cs : List Value) (sj aj lj : Nat), Hid (gk = M - j) ∧ j ≤ M ∧ iv = .int .i64 (j : Int) ∧ Hid (SQ = (gwSeq F (xl.drop j) sj aj lj).bind (fun l s b q => .ok (Lf.app l) s b q)) ∧ Hid (Lf.len = j) ∧ sj ≤ SL ∧ aj + lj ≤ 40000 ∧ lj + j + 1 ≤ left ∧ Hid (Blk wr gp 119 [.slice d.ta T d.tc, .slice d.na N d.nc, .slice d.aa L d.ac, .slice (some ⟨z, zo, none⟩) SL sc, .int .i64 (sj : Int), .int .i64 (aj : Int), .int .i64 (20000 - (lj : Int))]) ∧ Hid (Blk wr b6 51 [.int .i64 k, .int .i64 i, .int .i64 0, .slice ga j gc]) ∧ Hid (Blk wr b0 51 [.int .i64 0, .int .i64 0, .int .i64 0, .slice none 0 0]) ∧ Hid (wr.ownsRow base 51 4 (.slice ga j gc) j cs) ∧ Hid (TrCs wr (fun g => base ≤ g ∧ (Value.slice ga j gc).ownBlock ≠ some g) Lf cs) ∧ Hid (w.grownBy wr (some gp)) ∧ Hid (Below W0.heap.size W0 wr) ∧ base ≤ wr.heap.size)
        case atStart => exact ⟨0, none, 0, .nil, [], s + 1, a, left - 1, Lib.hid rfl, Nat.zero_le _, rfl, Lib.hid (by rw [← HSQ.out]; exact gwseq_start xl (s + 1) a (left - 1)), Lib.hid rfl, by omega, by omega, by omega, HB6, HX6, HN6, Lib.hid (World.ownsRow_nil _ _ _ _), Lib.hid rfl, HG6, HW6, hbase0⟩
        case round =>
          clear HB6 HX6 HN6 HG6 HW6 hbase0
          obtain ⟨j, ga, gc, Lf, cs, sj, aj, lj, Hgk, hj, rfl, HSJ, HLj, hsj, haj, hlj, HB, HX, HN, HO, HC, HG, HW9, hbs⟩ := hrel
          obtain ⟨U, rfl⟩ : ∃ U, U = wr := ⟨_, rfl⟩
          by_cases hlt : j < M
          · have hjI : (j : Int) < (M : Int) := by omega
            have hjI0 : (0 : Int) ≤ (j : Int) := by omega
            have hjx : j < xl.length := by rw [hM.out]; exact hlt
            obtain ⟨x, xo, hx⟩ := HI.out.at_ j (by rw [List.length_map]; exact hjx)
            have cx := (HI.out.grown HW9.out).cell x xo hx j (by rw [List.length_map]; exact hjx)
            rw [List.getElem_map] at cx
            have hdr : Hid (xl.drop j = xl[j]'hjx :: xl.drop (j + 1)) := Lib.hid (List.drop_eq_getElem_cons hjx)
            have hsr := HRN.out (xl[j]'hjx) (List.getElem_mem hjx)
            obtain ⟨kk, hkk⟩ : ∃ q, Hid (xl[j]'hjx = q) := ⟨_, Lib.hid rfl⟩
            rw [hkk.out] at cx hdr hsr
            have xbl := World.block_lt_of_cell? _ _ cx
            subst hx
            have Hc := Lib.hid (HIH.out kk sj aj lj (20000 - (lj : Int)) U hsr.1 hsr.2 (by omega) (by omega) (by omega) hsj haj HW9.out HB.out)
            go_wp2_with (fail)
            refine Hc.out.mono ?_
            intro e4 w4 hQ4
            unfold GutQ at hQ4
            cases hFs : F kk sj aj lj with
            | bad b x9 =>
              rw [hFs] at hQ4
              obtain ⟨hg4, hx9, rfl, m4, m5, hB4⟩ := hQ4
              rw [HT.out, HNm.out, HL.out, HSL.out] at hB4
              have HB4 := Lib.hid hB4
              have HRB : Hid (RES = .bad b x9) := Lib.hid (by rw [HRES.out, gwseq_bad HSJ.out hdr.out hFs]; rfl)
              have HN4 := Lib.hid (HN.out.kept hg4 (by have := HBL.out; intro e; injection e with e; omega))
              have HG4 := Lib.hid (grownBy_trans HG.out hg4 (fun i e => .inl e))
              have heb : (x9 != 0) = true := by simp [hx9]
              have HX9n := Lib.hid hx9
              clear hx9 hFs hB4 hg4 cx xbl Hc
              have n0 := HN4.out.cell 0
              have n1 := HN4.out.cell 1
              have n2 := HN4.out.cell 2
              have n3 := HN4.out.cell 3
              have nf0 := HN4.out.frozen 0
              have nf1 := HN4.out.frozen 1
              have nf2 := HN4.out.frozen 2
              have nf3 := HN4.out.frozen 3
              have nl := HN4.out.lt
              simp only [List.getElem?_cons_zero, List.getElem?_cons_succ] at n0 n1 n2 n3
              go_wp2_with (fail)
              have hN9 := blk_put4 HN4.out (.int .i64 0) (.int .i64 0) (.int .i64 0) (.slice none 0 0)
              have hB9 := blk_oth4 HB4.out (b' := b0) (by have := HBL.out; omega) (.int .i64 0) (.int .i64 0) (.int .i64 0) (.slice none 0 0)
              have hG9 := grown_put4 HG4.out (b := b0) (by rw [hb0.out]; exact Nat.le_refl _) (.int .i64 0) (.int .i64 0) (.int .i64 0) (.slice none 0 0)
              generalize World.setCell _ _ _ = WF at hN9 hB9 hG9 ⊢
              have hN9 := hN9.alloc (.cells #[.int .i64 0, .int .i64 0, .int .i64 0, .slice none 0 0] 51)
              have hB9 := hB9.alloc (.cells #[.int .i64 0, .int .i64 0, .int .i64 0, .slice none 0 0] 51)
              have hG9 := grownBy_trans hG9 (World.grownBy_alloc WF (.cells #[.int .i64 0, .int .i64 0, .int .i64 0, .slice none 0 0] 51) (some gp)) (fun i e => .inl e)
              generalize World.alloc WF _ = WF at hN9 hB9 hG9 ⊢
              have g0 := hN9.cell 0
              have g1 := hN9.cell 1
              have g2 := hN9.cell 2
              have g3 := hN9.cell 3
              simp only [List.getElem?_cons_zero, List.getElem?_cons_succ] at g0 g1 g2 g3
              have HF := HQB.out WF b x9 m4 m5 HRB.out (by first | omega | exact HX9n.out) hG9 hB9
              exact bodyPost_ret (v := .tuple #[.agg #[.int .i64 0, .int .i64 0, .int .i64 0, .slice none 0 0], .int .i64 x9]) (by simp [results, Try.results98, go_sem, g0, g1, g2, g3]) rfl HF
            | ok t s4 b q9 =>
              rw [hFs] at hQ4
              obtain ⟨hg4, ga4, gc4, rfl, hT4, hB4⟩ := hQ4
              obtain ⟨tk, ti, tA, tl⟩ := t
              dsimp only at hT4 ⊢
              rw [HT.out, HNm.out, HL.out, HSL.out] at hB4
              have HB4 := Lib.hid hB4
              have HT4 := Lib.hid hT4
              have HSN := Lib.hid (gwseq_step HSJ.out hdr.out hFs)
              obtain ⟨hk4, hq4⟩ := HFK.out _ _ _ _ _ _ _ _ hsj hFs
              have hk2 := hk4.s2
              have hk3 := hk4.an
              have HN4 := Lib.hid (HN.out.kept hg4 (by have := HBL.out; intro e; injection e with e; omega))
              have HX4 := Lib.hid (HX.out.kept hg4 (by have := HBL.out; intro e; injection e with e; omega))
              have hownb : ∀ g, (Value.slice ga j gc).ownBlock = some g → base ≤ g ∧ g < U.heap.size := World.ownsRow.lt HO.out
              have HO4 := Lib.hid (World.ownsRow.kept HO.out hg4 (.inr (fun e => by have := (hownb _ e).1; have := HBL.out; omega)))
              have HC4 := Lib.hid (trcs_grown HC.out hg4 (fun g h e => by injection e with e; have := h.1; have := HBL.out; omega))
              have HG4 := Lib.hid (grownBy_trans HG.out hg4 (fun i e => .inl e))
              have HW4 := Lib.hid (HW9.out.grown hg4 HW9.out.size (fun i e => by cases e; exact hgp))
              have hbs4 : base ≤ w4.heap.size := Nat.le_trans hbs hg4.size
              have hUs4 : U.heap.size ≤ w4.heap.size := hg4.size
              obtain ⟨tn, htn⟩ : ∃ q, Hid (tl.len = q) := ⟨_, Lib.hid rfl⟩
              rw [htn.out]
              obtain ⟨ga6, gc6, w6, hrun, ho6, hg6, hfr6⟩ := tr_push2 (World.ownsRow.alloc HO4.out (.cells #[.int .i64 tk, .int .i64 ti, .int .i64 tA, .slice ga4 tn gc4] 51)) ⟨tk, ti, tA⟩ ga4 tn gc4 49 (by omega) (by rw [World.size_alloc]; omega)
              have HG5 := Lib.hid (World.grownBy_alloc w4 (.cells #[.int .i64 tk, .int .i64 ti, .int .i64 tA, .slice ga4 tn gc4] 51) none)
              have hs5 : (w4.alloc (.cells #[.int .i64 tk, .int .i64 ti, .int .i64 tA, .slice ga4 tn gc4] 51)).heap.size = w4.heap.size + 1 := World.size_alloc _ _
              have HB6 := Lib.hid ((HB4.out.alloc (.cells #[.int .i64 tk, .int .i64 ti, .int .i64 tA, .slice ga4 tn gc4] 51)).kept hg6 (fun e => by have := (hownb _ e.symm).1; have := HBL.out; omega))
              have HN6 := Lib.hid ((HN4.out.alloc (.cells #[.int .i64 tk, .int .i64 ti, .int .i64 tA, .slice ga4 tn gc4] 51)).kept hg6 (fun e => by have := (hownb _ e.symm).1; have := HBL.out; omega))
              have HX6 := Lib.hid ((HX4.out.alloc (.cells #[.int .i64 tk, .int .i64 ti, .int .i64 tA, .slice ga4 tn gc4] 51)).kept hg6 (fun e => by have := (hownb _ e.symm).1; have := HBL.out; omega))
              have HO6 := Lib.hid ho6
              have HG6 := Lib.hid hg6
              have HF6 := Lib.hid hfr6
              have HOB := Lib.hid hownb
              have HS5 := Lib.hid hs5
              rw [World.size_alloc] at hrun
              have q3 := HX4.out.cell 3
              have ql := HX4.out.lt
              have r3 := HX6.out.cell 3
              have rf3 := HX6.out.frozen 3
              have rl := HX6.out.lt
              simp only [List.getElem?_cons_zero, List.getElem?_cons_succ] at q3 r3
              clear hFs hB4 hT4 hg4 cx xbl Hc hownb ho6 hg6 hfr6 hs5 hk4
              have Hrun := Lib.hid hrun
              clear hrun
              go_wp2_with (at_builtin; refine wpList_append_run rfl _ _ 49 49 rfl _ _ _ _ rfl rfl Hrun.out ?_)
              go_roundg (M - (j + 1))
              case measure => have := Hgk.out; omega
              case rel =>
                have HWS : w6.grownBy (w6.setCell ⟨b6, 3, none⟩ (.slice ga6 (j + 1) gc6)) (some b6) := grownBy_set w6 b6 3 _
                have hl6 : ∀ g, (Value.slice ga6 (j + 1) gc6).ownBlock = some g → base ≤ g ∧ g < w6.heap.size := World.ownsRow.lt HO6.out
                have c5 := trcs_grown HC4.out HG5.out (fun g h e => by cases e)
                have hPP : ∀ g, (base ≤ g ∧ (Value.slice ga j gc).ownBlock ≠ some g) → g < w4.heap.size + 1 → base ≤ g ∧ (Value.slice ga6 (j + 1) gc6).ownBlock ≠ some g := fun g h hlt => ⟨h.1, fun e => by
                  rcases HF6.out g e with e2 | e2
                  · exact h.2 e2
                  · have := HS5.out; omega⟩
                have c5b := c5.imp (Q := fun g => (base ≤ g ∧ (Value.slice ga j gc).ownBlock ≠ some g) ∧ (base ≤ g ∧ (Value.slice ga6 (j + 1) gc6).ownBlock ≠ some g)) (fun g h hlt => ⟨h, hPP g h (by have := HS5.out; omega)⟩)
                have c6 := (trcs_grown c5b HG6.out (fun g h e => h.1.2 e)).imp (Q := fun g => base ≤ g ∧ (Value.slice ga6 (j + 1) gc6).ownBlock ≠ some g) (fun g h _ => h.2)
                have c7 := trcs_grown c6 HWS (fun g h e => by injection e with e; have := h.1; omega)
                have k5 := trs_grown HT4.out HG5.out (fun g h e => by cases e)
                have k5b := k5.imp (Q := fun g => (base ≤ g ∧ (Value.slice ga j gc).ownBlock ≠ some g) ∧ (base ≤ g ∧ (Value.slice ga6 (j + 1) gc6).ownBlock ≠ some g)) (fun g h hlt => by
                  have h9 : base ≤ g ∧ (Value.slice ga j gc).ownBlock ≠ some g := ⟨by omega, fun e => by have := (HOB.out g e).2; omega⟩
                  exact ⟨h9, hPP g h9 (by have := HS5.out; omega)⟩)
                have k6 := (trs_grown k5b HG6.out (fun g h e => h.1.2 e)).imp (Q := fun g => base ≤ g ∧ (Value.slice ga6 (j + 1) gc6).ownBlock ≠ some g) (fun g h _ => h.2)
                have k7 := trs_grown k6 HWS (fun g h e => by injection e with e; have := h.1; omega)
                have o7 := World.ownsRow.kept HO6.out HWS (.inr (fun e => by have := (hl6 _ e).1; omega))
                have hwb : w.heap.size ≤ b6 := by have := hb0.out; omega
                have one7 := TrCs.one (h := ⟨tk, ti, tA⟩) k7
                rw [htn.out] at one7
                refine ⟨j + 1, ga6, gc6, Lf.app (.cons ⟨tk, ti, tA⟩ tl .nil), cs ++ [.int .i64 tk, .int .i64 ti, .int .i64 tA, .slice ga4 tn gc4], s4, b, q9, Lib.hid rfl, by omega, by go_num, HSN, Lib.hid (by rw [TrF.app_len, HLj.out]; rfl), hk2, by omega, by omega, Lib.hid (HB6.out.setOther (b' := b6) (j := 3) (by have := HBL.out; omega) (.slice ga6 (j + 1) gc6)), Lib.hid (HX6.out.set 3 (.slice ga6 (j + 1) gc6)), Lib.hid (HN6.out.setOther (b' := b6) (j := 3) (by omega) (.slice ga6 (j + 1) gc6)), Lib.hid o7, Lib.hid (c7.app one7), Lib.hid ?_, Lib.hid ?_, ?_⟩
                · refine grownBy_trans (grownBy_trans (grownBy_trans HG4.out (grownBy_none HG5.out (some gp)) (fun i e => .inl e)) HG6.out (fun i e => .inr ?_)) HWS (fun i e => .inr ?_)
                  · have := (HOB.out i e).1; omega
                  · injection e with e; omega
                · refine ((HW4.out.grown HG5.out HW4.out.size (fun i e => by cases e)).grown HG6.out ?_ (fun i e => ?_)).grown HWS ?_ (fun i e => ?_)
                  · have := HW4.out.size; have := HS5.out; omega
                  · have := (HOB.out i e).1; have := HBL.out; omega
                  · have := HW4.out.size; have := HS5.out; have := HG6.out.size; omega
                  · injection e with e; have := HBL.out; omega
                · have := HS5.out; have := HG6.out.size; have := HWS.size; omega
          · have hjM : j = M := by omega
            have HSE := Lib.hid (gwseq_end HSJ.out (by rw [hM.out]; omega))
            have HRK : Hid (RES = .ok ⟨k, i, 0, Lf⟩ sj aj lj) := Lib.hid (by rw [HRES.out, HSE.out]; rfl)
            have hT0 : TrS U (fun g => base ≤ g) ga gc Lf := row_trs (by rw [HLj.out]; exact HO.out) (HC.out.imp (fun g h _ => h.1)) (fun g o _ h => h)
            have hGP : U.grownBy ((((U.setCell ⟨b0, 0, none⟩ (.int .i64 k)).setCell ⟨b0, 1, none⟩ (.int .i64 i)).setCell ⟨b0, 2, none⟩ (.int .i64 0)).setCell ⟨b0, 3, none⟩ (.slice ga j gc)) (some b0) := grownBy_trans (grownBy_trans (grownBy_trans (grownBy_set U b0 0 _) (grownBy_set _ b0 1 _) (fun i e => .inl e)) (grownBy_set _ b0 2 _) (fun i e => .inl e)) (grownBy_set _ b0 3 _) (fun i e => .inl e)
            have HT9 := (trs_grown hT0 hGP (fun g h e => by injection e with e; omega)).imp (Q := fun g => w.heap.size ≤ g) (fun g h _ => by have := hb0.out; omega)
            have n0 := HN.out.cell 0
            have n1 := HN.out.cell 1
            have n2 := HN.out.cell 2
            have n3 := HN.out.cell 3
            have nf0 := HN.out.frozen 0
            have nf1 := HN.out.frozen 1
            have nf2 := HN.out.frozen 2
            have nf3 := HN.out.frozen 3
            have nl := HN.out.lt
            simp only [List.getElem?_cons_zero, List.getElem?_cons_succ] at n0 n1 n2 n3
            have x0 := HX.out.cell 0
            have x1 := HX.out.cell 1
            have x2 := HX.out.cell 2
            have x3 := HX.out.cell 3
            have xl := HX.out.lt
            simp only [List.getElem?_cons_zero, List.getElem?_cons_succ] at x0 x1 x2 x3
            have hjn : ¬ (j : Int) < (M : Int) := by omega
            clear hT0 hGP hjM
            go_wp2_with (fail)
            have hN9 := blk_put4 HN.out (.int .i64 k) (.int .i64 i) (.int .i64 0) (.slice ga j gc)
            have hB9 := blk_oth4 HB.out (b' := b0) (by have := HBL.out; omega) (.int .i64 k) (.int .i64 i) (.int .i64 0) (.slice ga j gc)
            have hG9 := grown_put4 HG.out (b := b0) (by rw [hb0.out]; exact Nat.le_refl _) (.int .i64 k) (.int .i64 i) (.int .i64 0) (.slice ga j gc)
            generalize World.setCell _ _ _ = WF at hN9 hB9 hG9 HT9 ⊢
            have g0 := hN9.cell 0
            have g1 := hN9.cell 1
            have g2 := hN9.cell 2
            have g3 := hN9.cell 3
            simp only [List.getElem?_cons_zero, List.getElem?_cons_succ] at g0 g1 g2 g3
            have HF := HQO.out WF ⟨k, i, 0, Lf⟩ sj aj lj ga gc HRK.out hG9 HT9 hB9
            dsimp only at HF
            rw [HLj.out] at HF
            exact bodyPost_ret (v := .tuple #[.agg #[.int .i64 k, .int .i64 i, .int .i64 0, .slice ga j gc], .int .i64 0]) (by simp [results, Try.results98, go_sem, g0, g1, g2, g3]) rfl HF
end Go.Proofs.Ythogiakfbgehnaa

