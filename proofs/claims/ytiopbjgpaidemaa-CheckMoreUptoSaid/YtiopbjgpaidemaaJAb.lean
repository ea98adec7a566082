/- Texts joined: Ih Ii Item Range Xf Xg Xb Shelf Xc Xd Xh Xi All Xj Xk. -/
import Derived.Test.YtiopbjgpaidemaaJAa
import Derived.Deep.LoopGhost
import Derived.RangeFuncNested
import Derived.RangeFuncBound
import Derived.RangeFuncCalls
import Derived.RangeFuncLeaves
import Derived.Shelf.Abstract
import Derived.Shelf.Small.Strs
import Derived.Shelf.Strings.Search1
import Derived.Test.YtiopbjgpaidemaaProg
import Derived.OwnWalkIn
import Derived.TacticsInMore
import Derived.LoopNIn
import Derived.LoopIn
import Derived.Sort.LoopGhostIn
import Derived.Deep.RegionLaw
import Derived.Test.YtiopbjgpaidemaaRows
import Derived.Outline
import Derived.WalkKit
import Derived.WalkLawsBesides
import Derived.WalkSpells
import Derived.OwnWalk
import Derived.BigQuiet
import Derived.Deep.QuietTactic
set_option linter.unusedVariables false
set_option linter.unusedSimpArgs false
namespace Go.Proofs.Ytiopbjgpaidemaa
open Go.RowKit Go.Maps

attribute [local go_sem] Oper.semAt_some

/-- An own row of keys. -/
abbrev OwnKS (W : World) (base : Nat) (a : Option Addr) (cap : Nat) (l : List ByteArray) : Prop := W.ownsRow base 9 1 (.slice a l.length cap) l.length (l.map Value.string)
theorem info_keyS : (Try.prog.info? 9).map (fun i => (i.zero, i.size, i.bytes)) = some (some (.string ⟨#[]⟩), 1, 16) := by kernel_rfl
theorem OwnKS.le {W : World} {base cap : Nat} {a : Option Addr} {l : List ByteArray} (h : OwnKS W base a cap l) : l.length ≤ cap ∧ cap ≤ 9223372036854775807 := by
  rcases h.2 with ⟨e1, e2⟩ | ⟨g, cap', cur, e1, hb, hg, hle, hm, hs, ht⟩
  · simp only [Value.slice.injEq] at e1
    omega
  · simp only [Value.slice.injEq] at e1
    unfold maxLen at hm
    omega
theorem OwnKS.at {W : World} {base cap : Nat} {a : Option Addr} {l : List ByteArray} (h : OwnKS W base a cap l) (i : Nat) (hi : i < l.length) :
    ∃ g, a = some ⟨g, 0, none⟩ ∧ base ≤ g ∧ g < W.heap.size ∧ W.cell? ⟨g, i, none⟩ = some (.string l[i]) := by
  rcases h.2 with ⟨_, e2⟩ | ⟨g, cap', cur, e1, hb, hg, hle, hm, hs, ht⟩
  · omega
  · simp only [Value.slice.injEq] at e1
    obtain ⟨rfl, -, rfl⟩ := e1
    have h1 := h.cellAt i (by omega)
    exact ⟨g, rfl, hb, (Array.getElem?_eq_some_iff.1 hg).1, by rw [h1, List.getElem?_map, List.getElem?_eq_getElem hi]; rfl⟩
theorem OwnKS.pop {W : World} {base cap : Nat} {a : Option Addr} {l : List ByteArray} {x : ByteArray} (h : OwnKS W base a cap (l ++ [x])) : OwnKS W base a cap l := by
  rcases h.2 with ⟨_, e2⟩ | ⟨g, cap', cur, e1, hb, hg, hle, hm, hs, ht⟩
  · simp at e2
  · simp only [Value.slice.injEq] at e1
    obtain ⟨rfl, -, rfl⟩ := e1
    refine ⟨by simp, .inr ⟨g, cap, cur, rfl, hb, hg, by simp at hle; omega, hm, hs, ?_⟩⟩
    have h2 := congrArg (List.take (l.length * 1)) ht
    rw [List.take_take, Nat.min_eq_left (by simp), List.map_append, List.take_append_of_le_length (by simp), List.take_of_length_le (l := l.map Value.string) (by simp)] at h2
    exact h2
theorem OwnKS.nil (W : World) (base : Nat) : OwnKS W base none 0 [] := World.ownsRow_nil W base _ 1
theorem OwnKS.kept {w w' : World} {base cap : Nat} {a : Option Addr} {l : List ByteArray} {row : Option Nat} (h : OwnKS w base a cap l) (hg : w.grownBy w' row) (hr : ∀ g, row = some g → (Value.slice a l.length cap).ownBlock ≠ some g) : OwnKS w' base a cap l := by
  refine World.ownsRow.kept h hg ?_
  cases e : (Value.slice a l.length cap).ownBlock with
  | none => exact .inl rfl
  | some g => exact .inr (fun e2 => hr g e2.symm e)
/-- A key is put onto an own row; where the row lies then. -/
theorem OwnKS.push {w : World} {base cap : Nat} {a : Option Addr} {l : List ByteArray} (h : OwnKS w base a cap l) (x : ByteArray) (ty : TypeId) (hn : l.length + 1 ≤ 1000000000) (hb : base ≤ w.heap.size) :
    ∃ a' c' w', (Builtin.append_ #[25, 25] ty #[.slice a l.length cap, .slice (some ⟨w.heap.size, 0, none⟩) 1 1]).run Try.prog (w.alloc (.cells #[.string x] 9)) = .ok (.slice a' (l.length + 1) c') w' ∧
      OwnKS w' base a' c' (l ++ [x]) ∧ w.grownBy w' (Value.slice a l.length cap).ownBlock ∧ (∀ g, (Value.slice a' (l ++ [x]).length c').ownBlock = some g → (Value.slice a l.length cap).ownBlock = some g ∨ w.heap.size ≤ g) := by
  obtain ⟨i0, hi, hz0, hz1, hz2⟩ := info_parts info_keyS
  have hnew : ∀ j u, [(.string x : Value)][j]? = some u → (w.alloc (.cells #[.string x] 9)).cell? ((⟨w.heap.size, 0, none⟩ : Addr).add j) = some u := cell_one_new w (.string x) _
  obtain ⟨v', w', hrun, ho, hg, _, hw⟩ := run_append_own_at (P := Try.prog) (w := w.alloc (.cells #[.string x] 9)) base 25 ty 9 i0 _ 1 16 Try.underlying25 hi hz0 hz1 hz2 rfl (by decide) _ _ _ (h.alloc _) ⟨w.heap.size, 0, none⟩ 1 1 [.string x] rfl hnew (fun u hu => by
    simp only [List.mem_cons, List.not_mem_nil, or_false] at hu
    subst hu
    rfl) (by unfold maxLen; omega) (by omega) (by simp; omega)
  obtain ⟨a', cap', rfl⟩ := slice_of_own ho
  refine ⟨a', cap', w', hrun, ?_, grownBy_trans (World.grownBy_alloc w _ _) hg (fun i e => .inl e), fun g e => ?_⟩
  · unfold OwnKS
    rw [List.map_append, List.length_append]
    simpa using ho
  · have e2 : (Value.slice a' (l.length + 1) cap').ownBlock = some g := by simpa using e
    rcases hw with hw | hw
    · exact .inl (by rw [← hw]; exact e2)
    · rw [hw] at e2
      have := Option.some.inj e2
      exact .inr (by rw [← this]; simp)
theorem OwnKS.vs {W : World} {base cap : Nat} {a : Option Addr} {l : List ByteArray} (h : OwnKS W base a cap l) : Vs W a cap (l.map Value.string) where
  le := by rw [List.length_map]; exact h.le.1
  max := h.le.2
  nil_ := fun e => by
    subst e
    rcases h.2 with ⟨e1, e2⟩ | ⟨g, cap', cur, e1, _⟩
    · simp only [Value.slice.injEq] at e1
      exact e1.2.2
    · cases e1
  at_ := fun i hi => by
    obtain ⟨g, e, _⟩ := h.at i (by simpa using hi)
    exact ⟨g, 0, e⟩
  cell := fun b off e i hi => by
    obtain ⟨g, e2, _, _, h4⟩ := h.at i (by simpa using hi)
    rw [e2] at e
    cases e
    rw [Nat.zero_add, h4, List.getElem_map]

/-- Where Reach keeps what it has found (the set b in the variable sb), and what of it lies open (the variable ob). -/
structure RchAtS (W : World) (base ob sb b n : Nat) (a : Option Addr) (c : Nat) (F O : List ByteArray) : Prop where
  obx : Blk W ob 25 [.slice a O.length c]
  sbx : Blk W sb 76 [.map (some b)]
  set : SetT W b n (fun x => memK x F)
  own : OwnKS W base a c O
  lo : base ≤ ob ∧ base ≤ sb ∧ base ≤ b
  fits : ∀ x ∈ F, x.size ≤ maxLen
section
variable {W W' : World} {base ob sb b n : Nat} {a : Option Addr} {c : Nat} {F O : List ByteArray} {row : Option Nat}
theorem RchAtS.blk_ne (h : RchAtS W base ob sb b n a c F O) {g t : Nat} {cs : List Value} (hk : Blk W g t cs) : g ≠ b := by
  obtain ⟨es, k, h1⟩ := h.set.obj
  unfold Blk at hk
  intro e
  subst e
  rw [h1] at hk
  cases hk
theorem RchAtS.row_ne (h : RchAtS W base ob sb b n a c F O) {b2 c2 : Nat} {a2 : Option Addr} {l : List ByteArray} (ho : OwnKS W b2 a2 c2 l) : ∀ g, (Value.slice a2 l.length c2).ownBlock = some g → g ≠ ob ∧ g ≠ sb ∧ g ≠ b := by
  intro g e
  refine ⟨fun e2 => own_ne_ty ho h.obx (by decide) (by rw [e, e2]), fun e2 => own_ne_ty ho h.sbx (by decide) (by rw [e, e2]), fun e2 => ?_⟩
  obtain ⟨_, cur, hk⟩ := own_typ ho g e
  obtain ⟨es, k, h1⟩ := h.set.obj
  rw [e2, h1] at hk
  cases hk
theorem RchAtS.kept (h : RchAtS W base ob sb b n a c F O) (hg : W.grownBy W' row) (hr : ∀ g, row = some g → g ≠ ob ∧ g ≠ sb ∧ g ≠ b ∧ (Value.slice a O.length c).ownBlock ≠ some g) : RchAtS W' base ob sb b n a c F O :=
  ⟨h.obx.kept hg (fun e => (hr ob e.symm).1 rfl), h.sbx.kept hg (fun e => (hr sb e.symm).2.1 rfl), h.set.kept hg (fun e => (hr b e.symm).2.2.1 rfl), h.own.kept hg (fun g e => (hr g e).2.2.2), h.lo, h.fits⟩
theorem RchAtS.below (h : RchAtS W base ob sb b n a c F O) (hb : Below W.heap.size W W') : RchAtS W' base ob sb b n a c F O := h.kept (below_grownBy hb none) (fun g e => by cases e)
end
/-- Keys lie apart from what adding turns. -/
def ApLS (W : World) (la : Option Addr) (ob b : Nat) (a : Option Addr) (n c : Nat) : Prop := ∀ g off, la = some ⟨g, off, none⟩ → g ≠ ob ∧ g ≠ b ∧ g < W.heap.size ∧ (Value.slice a n c).ownBlock ≠ some g
/-- What adding leaves. -/
def AddQS (W : World) (base ob sb b n : Nat) (F O l : List ByteArray) (e : Ending) (W' : World) : Prop :=
  e = .returned (.tuple #[]) ∧ ∃ n' a' c', n' ≤ n + l.length ∧ RchAtS W' base ob sb b n' a' c' (adsR l (F, O)).1 (adsR l (F, O)).2 ∧ Below base W W'

set_option maxRecDepth 100000 in
set_option maxHeartbeats 8000000 in
theorem addR_anyS (W : World) (base ob sb b n : Nat) (a : Option Addr) (c : Nat) (F O l : List ByteArray) (la : Option Addr) (lc : Nat) (h : RchAtS W base ob sb b n a c F O) (hl : Vs W la lc (l.map Value.string)) (hap : ApLS W la ob b a O.length c) (hfit : ∀ x ∈ l, x.size ≤ maxLen)
    (hL : O.length + l.length ≤ 1000000) (hn : n ≤ 100000000000000000) (hb : base ≤ W.heap.size) :
    Calls Try.prog 126 #[.slice la l.length lc, .pointer (some ⟨sb, 0, none⟩), .pointer (some ⟨ob, 0, none⟩)] W (AddQS W base ob sb b n F O l) := by
  have hlm : l.length ≤ lc ∧ lc ≤ 9223372036854775807 := ⟨by have := hl.le; rwa [List.length_map] at this, hl.max⟩
  obtain ⟨R, hR⟩ : ∃ R : Nat → List ByteArray × List ByteArray, Hid ((fun k => adsR (l.take k) (F, O)) = R) := ⟨_, Lib.hid rfl⟩
  have hR0 : Hid (R 0 = (F, O)) := Lib.hid (by rw [← hR.out]; rfl)
  have hRe : Hid (adsR l (F, O) = R l.length) := Lib.hid (by rw [← hR.out]; show _ = adsR (l.take l.length) (F, O); rw [List.take_length])
  have hRs : Hid (∀ k (hk : k < l.length), R (k + 1) = adR (R k) l[k]) := Lib.hid (fun k hk => by rw [← hR.out]; exact ads_take l (F, O) k hk)
  have hRl : Hid (∀ k, k ≤ l.length → (R k).2.length ≤ 1000000) := Lib.hid (fun k hk => by
    rw [← hR.out]
    obtain ⟨t, h1, h2, h3⟩ := ads_pre (l.take k) (F, O)
    show (adsR (l.take k) (F, O)).2.length ≤ _
    have h4 := nodupLe t (l.take k) h2 (fun x hx => (h3 x hx).2)
    rw [h1]
    simp at h4 ⊢
    omega)
  obtain ⟨Q, hQ⟩ : ∃ Q, Hid (AddQS W base ob sb b n F O l = Q) := ⟨_, Lib.hid rfl⟩
  rw [hQ.out]
  obtain ⟨L, HL⟩ : ∃ L, Hid (l.length = L) := ⟨_, Lib.hid rfl⟩
  rw [HL.out] at hlm hL hRl ⊢
  have HA0 : Hid (RchAtS W base ob sb b n a c (R 0).1 (R 0).2) := Lib.hid (by rw [hR0.out]; exact h)
  have HP0 : Hid (ApLS W la ob b a (R 0).2.length c) := Lib.hid (by rw [hR0.out]; exact hap)
  have HV0 := Lib.hid hl
  clear h hl hap
  go_enter Try.func126, Try.ntmps126
  go_wp2_with (fail)
  go_loopw [8] (fun iv wr => ∃ (k n' : Nat) (a' : Option Addr) (c' : Nat), k ≤ L ∧ iv = .int .i64 (k : Int) ∧ n' ≤ n + k ∧ Hid (RchAtS wr base ob sb b n' a' c' (R k).1 (R k).2) ∧ Hid (ApLS wr la ob b a' (R k).2.length c') ∧ Hid (Vs wr la lc (l.map Value.string)) ∧ Below base W wr) (fun iv _ => L - (intOf iv).toNat)
  case atStart => exact ⟨0, n, a, c, Nat.zero_le _, rfl, Nat.le_refl _, HA0, HP0, HV0, Below.refl _ _⟩
  case round =>
    obtain ⟨k, n', a', c', hk, rfl, hn', HA, HP, HV, hbr⟩ := hrel
    clear HA0 HP0 HV0
    by_cases hlt : k < L
    · have hkI : (k : Int) < (L : Int) := by omega
      have hkI0 : (0 : Int) ≤ (k : Int) := by omega
      have hkl : k < l.length := by rw [HL.out]; exact hlt
      obtain ⟨g, off, hla⟩ := HV.out.at_ k (by rw [List.length_map]; exact hkl)
      have c0 := HV.out.cell g off hla k (by rw [List.length_map]; exact hkl)
      rw [List.getElem_map] at c0
      obtain ⟨p1, p2, p3, p4⟩ := HP.out g off hla
      have hx := hfit l[k] (List.getElem_mem hkl)
      have hst := hRs.out k hkl
      obtain ⟨x, hxe⟩ : ∃ v, Hid (l[k] = v) := ⟨_, Lib.hid rfl⟩
      rw [hxe.out] at c0 hx hst
      have hbl := World.block_lt_of_cell? _ _ c0
      have x0 := HA.out.sbx.cell 0
      have xl := HA.out.sbx.lt
      have o0 := HA.out.obx.cell 0
      have ol := HA.out.obx.lt
      simp only [List.getElem?_cons_zero] at x0 o0
      have Hc := Lib.hid (sAdd_any wr b n' (fun y => memK y (R k).1) x HA.out.set hx (by unfold maxLen; omega))
      have hbo := HA.out.blk_ne HA.out.obx
      have hbs := HA.out.blk_ne HA.out.sbx
      have hRk := hRl.out k (by omega)
      have hP' : Hid (∀ g2 off2, la = some ⟨g2, off2, none⟩ → g2 = g) := Lib.hid (fun g2 off2 e => by rw [hla] at e; injection e with e; injection e with e1 _; exact e1.symm)
      have Hla := Lib.hid hla
      subst hla
      -- what the set's growing keeps
      have hset : ∀ (w3 : World) (hs : SetT w3 b (n' + 1) (fun t => decide (t = x) || memK t (R k).1)) (hg : wr.grownBy w3 (some b)), Blk w3 ob 25 [.slice a' (R k).2.length c'] ∧ Blk w3 sb 76 [.map (some b)] ∧ OwnKS w3 base a' c' (R k).2 ∧ Vs w3 (some ⟨g, off, none⟩) lc (l.map Value.string) := fun w3 hs hg =>
        ⟨HA.out.obx.kept hg (fun e => hbo (by injection e)), HA.out.sbx.kept hg (fun e => hbs (by injection e)), HA.out.own.kept hg (fun g2 e e2 => (HA.out.row_ne HA.out.own g2 e2).2.2 (by injection e with e; exact e.symm)), ⟨HV.out.le, HV.out.max, HV.out.nil_, HV.out.at_, fun b2 o2 e i hi => by
          have := HV.out.cell b2 o2 e i hi
          have hb2 := hP'.out b2 o2 e
          rw [← this]
          unfold World.cell?
          rw [hg.block b2 (by rw [hb2]; exact p3) (fun e => p2 (by injection e with e; rw [← hb2]; exact e))]⟩⟩
      have Hset := Lib.hid hset
      have hbB : base ≤ b := HA.out.lo.2.2
      have hoB : base ≤ ob := HA.out.lo.1
      obtain ⟨q, hq⟩ : ∃ q, Hid (memK x (R k).1 = q) := ⟨_, Lib.hid rfl⟩
      try dsimp only at Hc
      rw [hq.out] at Hc
      have Hst := Lib.hid hst
      clear hst hset
      go_wp2_with (fail)
      refine Hc.out.mono ?_
      clear Hc
      rintro e w3 ⟨rfl, hs3, hg3⟩
      obtain ⟨k1, k2, k3, k4⟩ := Hset.out w3 hs3 hg3
      have HS3 := Lib.hid hs3
      have hb3 := hbr.trans (belowAt hg3 (B := base) (fun i e => by injection e with e; omega) (Nat.le_trans hb hbr.size))
      have hsz3 := hg3.size
      have HK1 := Lib.hid k1
      have HK2 := Lib.hid k2
      have HK3 := Lib.hid k3
      have HK4 := Lib.hid k4
      clear hs3 hg3 k1 k2 k3 k4
      cases q
      case true =>
        have hx2 : x ∈ (R k).1 := memK_iff.1 hq.out
        have hst2 : Hid (R (k + 1) = R k) := Lib.hid (by rw [Hst.out]; unfold adR; rw [if_pos hx2])
        have HA2 : Hid (RchAtS w3 base ob sb b (n' + 1) a' c' (R (k + 1)).1 (R (k + 1)).2) := Lib.hid (by
          rw [hst2.out]
          exact ⟨HK1.out, HK2.out, HS3.out.congr (fun t => (memK_had hx2 t).symm), HK3.out, HA.out.lo, HA.out.fits⟩)
        have HP2 : Hid (ApLS w3 (some ⟨g, off, none⟩) ob b a' (R (k + 1)).2.length c') := Lib.hid (by
          rw [hst2.out]
          intro g2 o2 e
          obtain ⟨r1, r2, r3, r4⟩ := HP.out g2 o2 e
          exact ⟨r1, r2, Nat.lt_of_lt_of_le r3 hsz3, r4⟩)
        clear hx2
        go_wp2_with (fail)
        exact ⟨⟨k + 1, n' + 1, a', c', by omega, by go_num, by omega, HA2, HP2, HK4, hb3⟩, by simp [intOf]; omega⟩
      case false =>
        have hx2 : x ∉ (R k).1 := memK_not.1 hq.out
        have hst2 : Hid (R (k + 1) = ((R k).1 ++ [x], (R k).2 ++ [x])) := Lib.hid (by rw [Hst.out]; unfold adR; rw [if_neg hx2])
        obtain ⟨a2, c2, w2, hrun, ho, hg4, hlies⟩ := OwnKS.push HK3.out x 25 (by omega) (Nat.le_trans hb hb3.size)
        have hok := HK1.out.kept hg4 (fun e => own_ne_ty HK3.out HK1.out (by decide) e.symm)
        have hsk := HK2.out.kept hg4 (fun e => own_ne_ty HK3.out HK2.out (by decide) e.symm)
        have hmk := HS3.out.kept hg4 (fun e => (HA.out.row_ne HA.out.own b e.symm).2.2 rfl)
        have hne : sb ≠ ob := fun e => by
          subst e
          have h1 := HK1.out
          have h2 := HK2.out
          unfold Blk at h1 h2
          rw [h1] at h2
          cases h2
        have z0 := HK1.out.cell 0
        have zl := HK1.out.lt
        have y0 := hok.cell 0
        have yl := hok.lt
        have yf := hok.frozen 0
        simp only [List.getElem?_cons_zero] at z0 y0
        have hg5 := grownBy_set w2 ob 0 (.slice a2 ((R k).2.length + 1) c2)
        have hown : ∀ g2, (Value.slice a' (R k).2.length c').ownBlock = some g2 → base ≤ g2 := fun g2 e => (own_typ HA.out.own g2 e).1
        have Hb5 : Hid (Below base W (w2.setCell ⟨ob, 0, none⟩ (.slice a2 ((R k).2.length + 1) c2))) := Lib.hid ((hb3.trans (belowAt hg4 (B := base) (fun i e => hown i e) (Nat.le_trans hb hb3.size))).trans (belowAt hg5 (B := base) (fun i e => by injection e with e; omega) (Nat.le_trans hb (Nat.le_trans hb3.size hg4.size))))
        have HA2 : Hid (RchAtS (w2.setCell ⟨ob, 0, none⟩ (.slice a2 ((R k).2.length + 1) c2)) base ob sb b (n' + 1) a2 c2 (R (k + 1)).1 (R (k + 1)).2) := Lib.hid (by
          rw [hst2.out]
          refine ⟨?_, hsk.setOther hne _, (hmk.kept hg5 (fun e => hbo (by injection e with e; exact e.symm))).congr (fun t => (memK_add t x _).symm), ho.kept hg5 (fun g2 e e2 => own_ne_ty ho hok (by decide) (by rw [e2]; exact e.symm)), HA.out.lo, fun y hy => ?_⟩
          · have := hok.set 0 (.slice a2 ((R k).2.length + 1) c2)
            simpa using this
          · rcases List.mem_append.1 hy with hy | hy
            · exact HA.out.fits y hy
            · rw [List.mem_singleton] at hy
              rw [hy]; exact hx)
        have HP2 : Hid (ApLS (w2.setCell ⟨ob, 0, none⟩ (.slice a2 ((R k).2.length + 1) c2)) (some ⟨g, off, none⟩) ob b a2 (R (k + 1)).2.length c2) := Lib.hid (by
          rw [hst2.out]
          intro g2 o2 e
          obtain ⟨r1, r2, r3, r4⟩ := HP.out g2 o2 e
          refine ⟨r1, r2, Nat.lt_of_lt_of_le r3 (Nat.le_trans hsz3 (Nat.le_trans hg4.size hg5.size)), fun e2 => ?_⟩
          rcases hlies g2 e2 with h1 | h1
          · exact r4 h1
          · omega)
        have HV2 : Hid (Vs (w2.setCell ⟨ob, 0, none⟩ (.slice a2 ((R k).2.length + 1) c2)) (some ⟨g, off, none⟩) lc (l.map Value.string)) := Lib.hid ⟨HK4.out.le, HK4.out.max, HK4.out.nil_, HK4.out.at_, fun b2 o2 e i hi => by
          have h1 := HK4.out.cell b2 o2 e i hi
          have hb2 := hP'.out b2 o2 e
          rw [← h1]
          unfold World.cell?
          have hlt3 : b2 < w3.heap.size := by rw [hb2]; omega
          rw [hg5.block b2 (Nat.lt_of_lt_of_le hlt3 hg4.size) (fun e => p1 (by injection e with e; rw [← hb2]; exact e)), hg4.block b2 hlt3 (fun e => p4 (by rw [← hb2]; exact e.symm))]⟩
        have Hrun := Lib.hid hrun
        obtain ⟨LL, hLe⟩ : ∃ q, Hid ((R k).2.length = q) := ⟨_, Lib.hid rfl⟩
        rw [hLe.out] at Hrun hg5 HA2 HP2 HV2 Hb5 z0 y0
        clear hrun ho hg4 hlies hok hsk hmk hg5 hx2
        go_wp2_with (at_builtin; refine wpList_append_run rfl _ _ 25 25 rfl _ _ _ _ rfl rfl Hrun.out ?_)
        exact ⟨⟨k + 1, n' + 1, a2, c2, by omega, by go_num, by omega, HA2, HP2, HV2, Hb5.out⟩, by simp [intOf]; omega⟩
    · obtain rfl : k = L := by omega
      have hkI : ¬ (k : Int) < (k : Int) := by omega
      go_wp2_with (fail)
      exact bodyPost_end (v := .tuple #[]) (by simp [results, Try.results126, go_sem]; try rfl) rfl (by rw [← hQ.out]; exact ⟨rfl, n', a', c', by rw [HL.out]; exact hn', by rw [hRe.out, HL.out]; exact HA.out, hbr⟩)
end Go.Proofs.Ytiopbjgpaidemaa

namespace Go.Proofs.Ytiopbjgpaidemaa
open Go.RowKit Go.Maps

attribute [local go_sem] Oper.semAt_some

/-- The closure that adds, as a value. -/
abbrev addVS (sb ob : Nat) : Value := .func (.func 126) #[] #[.pointer (some ⟨sb, 0, none⟩), .pointer (some ⟨ob, 0, none⟩)]
/-- What adding all to which one step leads leaves. -/
def NextQS (W : World) (base ob sb b n : Nat) (F O : List ByteArray) (St : ByteArray → ByteArray → Prop) (x : ByteArray) (e : Ending) (W' : World) : Prop :=
  e = .returned (.tuple #[]) ∧ ∃ l n' a' c', (∀ y, y ∈ l ↔ St x y) ∧ n' ≤ n + 1000000 ∧ RchAtS W' base ob sb b n' a' c' (adsR l (F, O)).1 (adsR l (F, O)).2 ∧ Below base W W'
/-- A set, and what is in it. -/
def SetQS (w : World) (Q : ByteArray → Prop) (e : Ending) (W' : World) : Prop := ∃ sb n M, e = .returned (.map (some sb)) ∧ SetT W' sb n M ∧ n ≤ 10000000000000 ∧ (∀ x, M x = true ↔ Q x) ∧ w.heap.size ≤ sb ∧ Below w.heap.size w W'
theorem cons_lastR {α : Type} : ∀ (l : List α), l = [] ∨ ∃ m x, l = m ++ [x]
  | [] => .inl rfl
  | a :: l => by
    rcases cons_lastR l with rfl | ⟨m, x, rfl⟩
    · exact .inr ⟨[], a, rfl⟩
    · exact .inr ⟨a :: m, x, rfl⟩
theorem RchAtS.new (W : World) : RchAtS (((W.alloc (.map #[] 0)).alloc (.cells #[.map (some W.heap.size)] 76)).alloc (.cells #[.slice none 0 0] 25)) W.heap.size (W.heap.size + 1 + 1) (W.heap.size + 1) W.heap.size 0 none 0 [] [] where
  obx := by
    have := Blk.new ((W.alloc (.map #[] 0)).alloc (.cells #[.map (some W.heap.size)] 76)) 25 #[.slice none 0 0]
    rw [show ((W.alloc (.map #[] 0)).alloc (.cells #[.map (some W.heap.size)] 76)).heap.size = W.heap.size + 1 + 1 by simp] at this
    exact this
  sbx := by
    have := (Blk.new (W.alloc (.map #[] 0)) 76 #[.map (some W.heap.size)]).alloc (.cells #[.slice none 0 0] 25)
    rw [show (W.alloc (.map #[] 0)).heap.size = W.heap.size + 1 by simp] at this
    exact this
  set := (((SetT.new W).kept (World.grownBy_alloc _ _ none) (by simp)).kept (World.grownBy_alloc _ _ none) (by simp)).congr (fun t => rfl)
  own := OwnKS.nil _ _
  lo := ⟨by omega, by omega, by omega⟩
  fits := fun x h => by cases h
/-- The last of what lies open is taken off. -/
theorem RchAtS.pop {W : World} {base ob sb b n c : Nat} {a : Option Addr} {F O : List ByteArray} {x : ByteArray} (h : RchAtS W base ob sb b n a c F (O ++ [x])) : RchAtS (W.setCell ⟨ob, 0, none⟩ (.slice a O.length c)) base ob sb b n a c F O := by
  have hg := grownBy_set W ob 0 (.slice a O.length c)
  have hne : sb ≠ ob := fun e => by
    subst e
    have h1 := h.obx
    have h2 := h.sbx
    unfold Blk at h1 h2
    rw [h1] at h2
    cases h2
  have hbo := h.blk_ne h.obx
  refine ⟨?_, h.sbx.setOther hne _, h.set.kept hg (fun e => hbo (by injection e with e; exact e.symm)), h.own.pop.kept hg (fun g e e2 => own_ne_ty h.own h.obx (by decide) (show _ = some ob from by rw [e]; cases a <;> exact e2)), h.lo, h.fits⟩
  have := h.obx.set 0 (.slice a O.length c)
  simpa using this

set_option maxRecDepth 100000 in
set_option maxHeartbeats 8000000 in
theorem reach_anyS (W : World) (K : FuncId) (cp : Value) (fr : List ByteArray) (fa : Option Addr) (fc : Nat) (hfr : Vs W fa fc (fr.map Value.string)) (hfb : ∀ g off, fa = some ⟨g, off, none⟩ → g < W.heap.size) (hff : ∀ x ∈ fr, x.size ≤ maxLen)
    (St : ByteArray → ByteArray → Prop) (U : List ByteArray) (hU : ∀ x, Rchd fr St x → x ∈ U) (hUl : U.length ≤ 100000) (hfl : fr.length ≤ 100000)
    (hK : ∀ (args : Array Value) (w : World), (callFunc K args).run Try.prog w = .ok (.enter K args) w)
    (Hnext : ∀ (W' : World) (n' : Nat) (a' : Option Addr) (c' : Nat) (F O : List ByteArray) (x : ByteArray), Below W.heap.size W W' → x ∈ U → x.size ≤ maxLen → O.length ≤ 400000 → n' ≤ 1000000000000 →
      RchAtS W' W.heap.size (W.heap.size + 1 + 1) (W.heap.size + 1) W.heap.size n' a' c' F O → Calls Try.prog K #[.string x, addVS (W.heap.size + 1) (W.heap.size + 1 + 1), cp] W' (NextQS W' W.heap.size (W.heap.size + 1 + 1) (W.heap.size + 1) W.heap.size n' F O St x)) :
    Calls Try.prog 99 #[.slice fa fr.length fc, .func (.func K) #[] #[cp]] W (SetQS W (Rchd fr St)) := by
  have hfm : fr.length ≤ fc ∧ fc ≤ 9223372036854775807 := ⟨by have := hfr.le; rwa [List.length_map] at this, hfr.max⟩
  have hNew := RchAtS.new W
  have hb2 : Below W.heap.size W (((W.alloc (.map #[] 0)).alloc (.cells #[.map (some W.heap.size)] 76)).alloc (.cells #[.slice none 0 0] 25)) := (((Below.refl _ W).alloc (Nat.le_refl _) _).alloc (by simp) _).alloc (by simp; omega) _
  have hmm := @run_makeMap Try.prog
  have HI0 := Lib.hid (RcInv.begin fr St)
  have Hlf := Lib.hid (HI0.out.len hU)
  have HO0 : Hid ((adsR fr ([], [])).2.length ≤ 100000) := Lib.hid (by
    obtain ⟨t, h1, h2, h3⟩ := ads_pre fr ([], [])
    have h4 := nodupLe t fr h2 (fun x hx => (h3 x hx).2)
    rw [h1]
    simp at h4 ⊢
    omega)
  have Hadd := Lib.hid (addR_anyS _ W.heap.size (W.heap.size + 1 + 1) (W.heap.size + 1) W.heap.size 0 none 0 [] [] fr fa fc hNew (hfr.grown hb2) (fun g off e => by
    have h1 := hfb g off e
    exact ⟨by omega, by omega, Nat.lt_of_lt_of_le h1 hb2.size, by simp [Value.ownBlock]⟩) hff (by simp; omega) (by omega) hb2.size)
  have Hb2 := Lib.hid hb2
  obtain ⟨Q, hQ⟩ : ∃ Q, Hid (SetQS W (Rchd fr St) = Q) := ⟨_, Lib.hid rfl⟩
  rw [hQ.out]
  obtain ⟨base, hbase⟩ : ∃ q, Hid (W.heap.size = q) := ⟨_, Lib.hid rfl⟩
  have hbW : base ≤ W.heap.size := by rw [hbase.out]; exact Nat.le_refl _
  obtain ⟨Fl, hFl⟩ : ∃ q, Hid (fr.length = q) := ⟨_, Lib.hid rfl⟩
  rw [hFl.out] at hfm hfl Hadd ⊢
  rw [hbase.out] at Hnext
  have HN := Lib.hid Hnext
  clear Hnext hNew hb2 hfr hfb hff
  go_enter Try.func99, Try.ntmps99
  go_wp2_with (fail)
  rw [hbase.out] at Hadd Hb2 ⊢
  generalize hV : World.alloc (World.alloc (World.alloc W _) _) _ = V at Hadd Hb2 ⊢
  clear hV
  refine Hadd.out.mono ?_
  clear Hadd
  rintro e w1 ⟨rfl, n1, a1, c1, hn1, hR1, hb1⟩
  have HR1 := Lib.hid hR1
  have Hb1 := Lib.hid (Hb2.out.trans hb1)
  rw [hFl.out] at hn1
  clear hR1 hb1 Hb2
  obtain ⟨FO, hFO⟩ : ∃ q, Hid (adsR fr ([], []) = q) := ⟨_, Lib.hid rfl⟩
  rw [hFO.out] at HR1 HI0 Hlf HO0
  obtain ⟨F0, O0⟩ := FO
  dsimp only at HR1 HI0 Hlf HO0
  obtain ⟨g0, hg0⟩ : ∃ q, Hid (leftR U.length F0.length O0.length = q) := ⟨_, Lib.hid rfl⟩
  have hg0b : g0 ≤ 300000 := by
    rw [← hg0.out]
    unfold leftR
    have := HO0.out
    omega
  go_wp2_with (fail)
  go_loopg [] g0 (fun gk wr => ∃ (F O : List ByteArray) (n' : Nat) (a' : Option Addr) (c' : Nat), Hid (gk = leftR U.length F.length O.length) ∧ n' + 1000000 * gk ≤ 400000000000 ∧ gk ≤ 300000 ∧ Hid (RchAtS wr base (base + 1 + 1) (base + 1) base n' a' c' F O) ∧ Hid (RcInv fr St F O) ∧ Hid (Below base W wr))
  case atStart => exact ⟨F0, O0, n1, a1, c1, Lib.hid hg0.out.symm, by omega, hg0b, HR1, HI0, Hb1⟩
  case round =>
    obtain ⟨F, O, n', a', c', hgk, hnk, hgb, HR, HI, HB⟩ := hrel
    clear HR1 HI0 Hb1 HO0 Hlf hg0
    have o0 := HR.out.obx.cell 0
    have ol := HR.out.obx.lt
    have s0 := HR.out.sbx.cell 0
    have sl := HR.out.sbx.lt
    have of_ := HR.out.obx.frozen 0
    simp only [List.getElem?_cons_zero] at o0 s0
    rcases cons_lastR O with rfl | ⟨O, x, rfl⟩
    · have o1 : wr.cell? ⟨base + 1 + 1, 0, none⟩ = some (.slice a' 0 c') := o0
      clear o0
      go_wp2_with (fail)
      show Q (.returned (.map (some base))) wr
      rw [← hQ.out]
      exact ⟨base, n', fun x => memK x F, rfl, HR.out.set, by omega, fun x => memK_iff.trans (HI.out.done x), by rw [hbase.out]; exact Nat.le_refl _, by rw [hbase.out]; exact HB.out⟩
    · obtain ⟨g, rfl, hg1, hg2, c0⟩ := HR.out.own.at O.length (by simp)
      have hcap := HR.out.own.le
      have hxF : x ∈ F := HI.out.opened x (by simp)
      have hxU := hU x (HI.out.sound x hxF)
      have hxf := HR.out.fits x hxF
      have hxe : (O ++ [x])[O.length]'(by simp) = x := by simp
      rw [hxe] at c0
      have hOl : O.length ≤ 300000 := by
        have h1 := hgk.out
        unfold leftR at h1
        rw [List.length_append, List.length_singleton] at h1
        omega
      have HP := Lib.hid HR.out.pop
      have hbp : Below base W (wr.setCell ⟨base + 1 + 1, 0, none⟩ (.slice (some ⟨g, 0, none⟩) O.length c')) := HB.out.trans (belowAt (grownBy_set wr (base + 1 + 1) 0 (.slice (some ⟨g, 0, none⟩) O.length c')) (fun i e => by injection e with e; omega) (Nat.le_trans hbW HB.out.size))
      have hbp2 := hbp
      rw [← hbase.out] at hbp2
      rw [hbase.out] at hbp2
      have Hc := Lib.hid (HN.out (wr.setCell ⟨base + 1 + 1, 0, none⟩ (.slice (some ⟨g, 0, none⟩) O.length c')) n' (some ⟨g, 0, none⟩) c' F O x hbp hxU hxf (by omega) (by omega) HP.out)
      have Hbp := Lib.hid hbp
      rw [List.length_append, List.length_singleton] at hcap o0
      obtain ⟨L, hL⟩ : ∃ q, Hid (O.length = q) := ⟨_, Lib.hid rfl⟩
      rw [hL.out] at hcap c0 o0 Hc Hbp hOl HP
      have hLb : (L : Int) ≤ 300000 := by omega
      have hL0 : (0 : Int) ≤ (L : Int) := by omega
      have hLc : (L : Int) ≤ (c' : Int) := by omega
      have hLp : ((L + 1 : Nat) : Int) > 0 := by omega
      clear hxe hbp hbp2
      go_wp2_with (fail)
      refine Hc.out.mono ?_
      clear Hc
      rintro e w3 ⟨rfl, l, n3, a3, c3, hl, hn3, hR3, hb3⟩
      have HR3 := Lib.hid hR3
      have HI3 := Lib.hid (HI.out.step hl)
      have Hlt := Lib.hid (left_step HI.out hl hU)
      have Hb3 := Lib.hid (Hbp.out.trans hb3)
      clear hR3 hb3 hl
      obtain ⟨FO, hFO⟩ : ∃ q, Hid (adsR l (F, O) = q) := ⟨_, Lib.hid rfl⟩
      rw [hFO.out] at HR3 HI3 Hlt
      obtain ⟨F3, O3⟩ := FO
      dsimp only at HR3 HI3 Hlt
      rw [← hgk.out] at Hlt
      obtain ⟨g3, hg3⟩ : ∃ q, Hid (leftR U.length F3.length O3.length = q) := ⟨_, Lib.hid rfl⟩
      rw [hg3.out] at Hlt
      go_wp2_with (fail)
      go_roundg g3
      case measure => exact Hlt.out
      case rel => exact ⟨F3, O3, n3, a3, c3, Lib.hid hg3.out.symm, by have := Hlt.out; omega, by have := Hlt.out; omega, HR3, HI3, Hb3⟩
end Go.Proofs.Ytiopbjgpaidemaa

namespace Go.Proofs.Ytiopbjgpaidemaa
open Go.RowKit

/-- A span. -/
structure Sp where
  lo : UInt8
  hi : UInt8
deriving DecidableEq

/-- What an expression holds itself. -/
structure Hd where
  k : Int
  set : List Sp

/-- A list of expressions, each with its own list. -/
inductive Fo where
  | nil
  | cons (h : Hd) (kids rest : Fo)

def Fo.len : Fo → Nat
  | .nil => 0
  | .cons _ _ rest => rest.len + 1

/-- How many expressions there are in all. -/
def Fo.size : Fo → Nat
  | .nil => 0
  | .cons _ kids rest => kids.size + rest.size + 1

/-- A node of the walk over all that is in an expression: how deep it stands, what it holds, how many it has. -/
structure Nd where
  d : Nat
  h : Hd
  len : Nat

/-- A list's expressions and all that are in them, each ahead of its own list. -/
def Fo.pre (d : Nat) : Fo → List Nd
  | .nil => []
  | .cons h kids rest => ⟨d, h, kids.len⟩ :: (kids.pre (d + 1) ++ rest.pre d)

/-- Rounds that are still to come. -/
def steps : List Fo → Nat
  | [] => 0
  | f :: fs => 2 * f.size + 1 + steps fs

end Go.Proofs.Ytiopbjgpaidemaa

namespace Go.Proofs.Ytiopbjgpaidemaa
open Go.RowKit Go.Shelf

variable {P : Program}

end Go.Proofs.Ytiopbjgpaidemaa

namespace Go.Proofs.Ytiopbjgpaidemaa
open Go.RowKit

abbrev OwnR (w : World) (base : Nat) (a : Option Addr) (c : Nat) (rs : List RlD) : Prop := w.ownsRow base 34 2 (.slice a rs.length c) rs.length (rs.flatMap RlD.cells)
section
variable {w w' : World} {base size n cap : Nat} {e : TypeId} {a : Option Addr} {xs : List Value} {row : Option Nat}
theorem own_kept_ty (h : w.ownsRow base e size (.slice a n cap) n xs) (hg : w.grownBy w' row) (hrow : ∀ g, row = some g → ∃ cur t fr, w.heap[g]? = some (.cells cur t fr) ∧ e ≠ t) : w'.ownsRow base e size (.slice a n cap) n xs := by
  rcases h0 : (Value.slice a n cap).ownBlock with _ | k
  · exact h.kept hg (.inl h0)
  · refine h.kept hg (.inr (fun e0 => ?_))
    rw [h0] at e0
    obtain ⟨cur, t, fr, hk, ht⟩ := hrow k e0.symm
    exact own_ne_ty h hk ht h0
end
section
variable {w w' : World} {B m m1 m2 : Nat} {row : Option Nat}
end
theorem cells_len (rs : List RlD) : (rs.flatMap RlD.cells).length = rs.length * 2 := by
  induction rs with
  | nil => rfl
  | cons x l ih => simp only [List.flatMap_cons, List.length_append, List.length_cons] at ih ⊢; rw [ih]; simp [RlD.cells]; omega
section
variable {w : World} {B rb place rc : Nat} {rs : List RlD} {ra : Option Addr}
end
end Go.Proofs.Ytiopbjgpaidemaa

namespace Go.Proofs.Ytiopbjgpaidemaa
open Go.RowKit Go.Shelf

attribute [local go_sem] Oper.semAt_some

end Go.Proofs.Ytiopbjgpaidemaa

namespace Go.Proofs.Ytiopbjgpaidemaa
open Go.RowKit Go.Shelf

attribute [local go_sem] Oper.semAt_some

theorem let_t {c : UInt8} (h : (97 ≤ c.toNat ∧ c.toNat ≤ 122) ∨ (65 ≤ c.toNat ∧ c.toNat ≤ 90) ∨ c.toNat = 95) : letB c = true := by
  unfold letB; simp only [Bool.or_eq_true, Bool.and_eq_true, decide_eq_true_eq]; omega
theorem let_f {c : UInt8} (h : ¬ ((97 ≤ c.toNat ∧ c.toNat ≤ 122) ∨ (65 ≤ c.toNat ∧ c.toNat ≤ 90) ∨ c.toNat = 95)) : letB c = false := by
  rw [Bool.eq_false_iff]; unfold letB; simp only [ne_eq, Bool.or_eq_true, Bool.and_eq_true, decide_eq_true_eq]; omega
theorem dig_t {c : UInt8} (h : 48 ≤ c.toNat ∧ c.toNat ≤ 57) : digB c = true := by
  unfold digB; simp only [Bool.and_eq_true, decide_eq_true_eq]; omega
theorem dig_f {c : UInt8} (h : ¬ (48 ≤ c.toNat ∧ c.toNat ≤ 57)) : digB c = false := by
  rw [Bool.eq_false_iff]; unfold digB; simp only [ne_eq, Bool.and_eq_true, decide_eq_true_eq]; omega
theorem ret_b {a b : Bool} (h : b = a) : Ending.returned (.bool a) = .returned (.bool b) := by rw [h]

set_option maxRecDepth 100000 in
set_option maxHeartbeats 2000000 in
theorem isLetter_any (c : UInt8) (w : World) :
    Calls Try.prog 144 #[.int .u8 (c.toNat : Int)] w fun e w' => e = .returned (.bool (letB c)) ∧ w' = w := by
  have hu : c.toNat < 256 := c.toNat_lt
  by_cases h0 : (97 : Int) ≤ (c.toNat : Int) <;> by_cases h1 : (c.toNat : Int) ≤ 122 <;> by_cases h2 : (65 : Int) ≤ (c.toNat : Int) <;> by_cases h3 : (c.toNat : Int) ≤ 90 <;> by_cases h4 : (c.toNat : Int) = 95
  all_goals
    go_enter Try.func144, Try.ntmps144
    go_wp2_with (fail)
    first
      | exact bodyPost_ret (v := .bool true) (by simp [results, Try.results144, go_sem]; try first | rfl | assumption | omega) rfl ⟨ret_b (let_t (by omega)), rfl⟩
      | exact bodyPost_ret (v := .bool false) (by simp [results, Try.results144, go_sem]; try first | rfl | assumption | omega) rfl ⟨ret_b (let_f (by omega)), rfl⟩

set_option maxRecDepth 100000 in
set_option maxHeartbeats 2000000 in
theorem isDigit_any (c : UInt8) (w : World) :
    Calls Try.prog 143 #[.int .u8 (c.toNat : Int)] w fun e w' => e = .returned (.bool (digB c)) ∧ w' = w := by
  have hu : c.toNat < 256 := c.toNat_lt
  by_cases h0 : (48 : Int) ≤ (c.toNat : Int) <;> by_cases h1 : (c.toNat : Int) ≤ 57
  all_goals
    go_enter Try.func143, Try.ntmps143
    go_wp2_with (fail)
    first
      | exact bodyPost_ret (v := .bool true) (by simp [results, Try.results143, go_sem]; try first | rfl | assumption | omega) rfl ⟨ret_b (dig_t (by omega)), rfl⟩
      | exact bodyPost_ret (v := .bool false) (by simp [results, Try.results143, go_sem]; try first | rfl | assumption | omega) rfl ⟨ret_b (dig_f (by omega)), rfl⟩

theorem loop_ne (s : ByteArray) : ∀ (n i : Nat) (r : List UInt8), s.size - i = n → r ≠ [] → ByteArray.toList.loop s i r ≠ [] := by
  intro n
  induction n with
  | zero => intro i r h hr; unfold ByteArray.toList.loop; rw [if_neg (by omega)]; simpa using hr
  | succ n ih => intro i r h hr; unfold ByteArray.toList.loop; rw [if_pos (by omega)]; exact ih _ _ (by omega) (by simp)
theorem toList_ne (s : ByteArray) (h : s.size ≠ 0) : s.toList ≠ [] := by
  unfold ByteArray.toList ByteArray.toList.loop
  rw [if_pos (by omega)]
  exact loop_ne s _ _ _ rfl (by simp)
theorem dlen (s : ByteArray) : s.data.toList.length = s.size := by rw [Array.length_toList]; rfl

set_option maxRecDepth 100000 in
set_option maxHeartbeats 2000000 in
theorem isName_any (s : ByteArray) (w : World) :
    Calls Try.prog 119 #[.string s] w fun e w' => e = .returned (.bool (nameB s)) ∧ w' = w := by
  obtain ⟨q, hq⟩ : ∃ q, Hid (nameB s = q) := ⟨_, Lib.hid rfl⟩
  rw [hq.out]
  by_cases h0 : s.size = 0
  · have h0b : s = ByteArray.mk #[] := by
      have : s.data = #[] := by apply Array.eq_empty_of_size_eq_zero; exact h0
      cases s; simp at this; rw [this]
    subst h0b
    have hF : q = false := by rw [← hq.out]; rfl
    subst hF
    go_enter Try.func119, Try.ntmps119
    go_wp2_with (fail)
    exact bodyPost_ret (v := .bool false) (by simp [results, Try.results119, go_sem]; try rfl) rfl ⟨rfl, rfl⟩
  have hpos : 0 < s.size := by omega
  have hne : s.toList.isEmpty = false := by rw [List.isEmpty_eq_false_iff]; exact toList_ne s h0
  obtain ⟨c, r, hcr⟩ : ∃ c r, s.data.toList = c :: r := by
    cases h : s.data.toList with
    | nil => have := dlen s; rw [h] at this; simp at this; omega
    | cons c r => exact ⟨c, r, rfl⟩
  have hlen : r.length + 1 = s.size := by rw [← dlen s, hcr]; rfl
  have hc0 : Hid (s[0] = c) := Lib.hid (by
    have : s.data.toList[0]'(by rw [dlen]; exact hpos) = c := by simp [hcr]
    exact this)
  have HQ : Hid (q = (decide (r.length < 32) && !digB c && (c :: r).all (fun d => letB d || digB d))) := Lib.hid (by rw [← hq.out]; unfold nameB; rw [hcr]; rfl)
  have hposI : (0 : Int) < (s.size : Int) := by omega
  by_cases h32 : 32 < s.size
  · have h32I : (32 : Int) < (s.size : Int) := by omega
    have hF : q = false := by rw [HQ.out, decide_eq_false (by omega)]; rfl
    subst hF
    go_enter Try.func119, Try.ntmps119
    go_wp2_with (fail)
    exact bodyPost_ret (v := .bool false) (by simp [results, Try.results119, go_sem]; try rfl) rfl ⟨rfl, rfl⟩
  have h32I : ¬ (32 : Int) < (s.size : Int) := by omega
  have Hd := Lib.hid (isDigit_any c w)
  obtain ⟨dc, hdc⟩ : ∃ d, Hid (digB c = d) := ⟨_, Lib.hid rfl⟩
  rw [hdc.out] at Hd
  cases dc
  case true =>
    have hF : q = false := by rw [HQ.out, hdc.out]; simp
    subst hF
    go_enter Try.func119, Try.ntmps119
    go_wp2_with (go_at_call 143; rw [hc0.out]; (with_reducible refine Hd.out.mono ?_); rintro e w1 ⟨rfl, hw1⟩; subst w1)
    exact bodyPost_ret (v := .bool false) (by simp [results, Try.results119, go_sem]; try rfl) rfl ⟨rfl, rfl⟩
  have HQ2 : Hid (q = (s.data.toList.drop 0).all (fun d => letB d || digB d)) := Lib.hid (by rw [HQ.out, hdc.out, decide_eq_true (by omega), hcr]; rfl)
  clear HQ hcr hlen
  go_enter Try.func119, Try.ntmps119
  go_wp2_with (go_at_call 143; rw [hc0.out]; (with_reducible refine Hd.out.mono ?_); rintro e w1 ⟨rfl, hw1⟩; subst w1)
  go_loopw [3, 18] (fun _ iv wr => ∃ k : Nat, k ≤ s.size ∧ iv = .int .i64 (k : Int) ∧ q = (s.data.toList.drop k).all (fun d => letB d || digB d) ∧ wr = w) (fun _ iv _ => s.size - (intOf iv).toNat)
  case atStart => exact ⟨0, Nat.zero_le _, rfl, HQ2.out, rfl⟩
  case round =>
    obtain ⟨k, hk, rfl, hqk, hwr⟩ := hrel
    subst wr
    have HK := Lib.hid hqk
    clear hqk
    by_cases hlt : k < s.size
    · have hkI : (k : Int) < (s.size : Int) := by omega
      have hkI0 : (0 : Int) ≤ (k : Int) := by omega
      have hkl : k < s.data.toList.length := by rw [dlen]; exact hlt
      obtain ⟨d, hd⟩ : ∃ d, Hid (s[k] = d) := ⟨_, Lib.hid rfl⟩
      have HK2 : Hid (q = ((letB d || digB d) && (s.data.toList.drop (k + 1)).all (fun d => letB d || digB d))) := Lib.hid (by
        have h1 : s.data.toList[k] = d := hd.out
        rw [HK.out, List.drop_eq_getElem_cons hkl, h1]; rfl)
      have HL := Lib.hid (isLetter_any d w)
      have HD := Lib.hid (isDigit_any d w)
      obtain ⟨lb, hlb⟩ : ∃ v, Hid (letB d = v) := ⟨_, Lib.hid rfl⟩
      obtain ⟨db, hdb⟩ : ∃ v, Hid (digB d = v) := ⟨_, Lib.hid rfl⟩
      rw [hlb.out] at HL
      rw [hdb.out] at HD
      rw [hlb.out, hdb.out] at HK2
      cases lb
      · cases db
        · have hF : q = false := by rw [HK2.out]; rfl
          subst hF
          go_wp2_with (first | (go_at_call 144; rw [hd.out]; (with_reducible refine HL.out.mono ?_); rintro e w1 ⟨rfl, hw1⟩; subst w1) | (go_at_call 143; rw [hd.out]; (with_reducible refine HD.out.mono ?_); rintro e w1 ⟨rfl, hw1⟩; subst w1))
          exact bodyPost_ret (v := .bool false) (by simp [results, Try.results119, go_sem]; try rfl) rfl ⟨rfl, rfl⟩
        · go_wp2_with (first | (go_at_call 144; rw [hd.out]; (with_reducible refine HL.out.mono ?_); rintro e w1 ⟨rfl, hw1⟩; subst w1) | (go_at_call 143; rw [hd.out]; (with_reducible refine HD.out.mono ?_); rintro e w1 ⟨rfl, hw1⟩; subst w1))
          exact ⟨⟨k + 1, by omega, by simp, by rw [HK2.out]; rfl, by first | rfl | trivial⟩, by simp [intOf]; omega⟩
      · go_wp2_with (first | (go_at_call 144; rw [hd.out]; (with_reducible refine HL.out.mono ?_); rintro e w1 ⟨rfl, hw1⟩; subst w1))
        exact ⟨⟨k + 1, by omega, by simp, by rw [HK2.out]; simp, by first | rfl | trivial⟩, by simp [intOf]; omega⟩
    · obtain rfl : k = s.size := by omega
      have hkI : ¬ (s.size : Int) < (s.size : Int) := by omega
      have hT : q = true := by rw [HK.out, List.drop_eq_nil_of_le (by rw [dlen]; exact Nat.le_refl _)]; rfl
      subst hT
      go_wp2_with (fail)
      exact bodyPost_ret (v := .bool true) (by simp [results, Try.results119, go_sem]; try rfl) rfl ⟨rfl, rfl⟩
end Go.Proofs.Ytiopbjgpaidemaa

namespace Go.Proofs
open Go.Shelf
end Go.Proofs

namespace Go.Proofs.Ytiopbjgpaidemaa
open Go.RowKit Go.Shelf

attribute [local go_sem] Oper.semAt_some

end Go.Proofs.Ytiopbjgpaidemaa

namespace Go.Proofs.Ytiopbjgpaidemaa
open Go.RowKit Go.Shelf

attribute [local go_sem] Oper.semAt_some

end Go.Proofs.Ytiopbjgpaidemaa

namespace Go.Proofs.Ytiopbjgpaidemaa
open Go.RowKit Go.Shelf

attribute [local go_sem] Oper.semAt_some

theorem loop_is (s : ByteArray) : ∀ (n i : Nat) (r : List UInt8), s.size - i = n → ByteArray.toList.loop s i r = r.reverse ++ s.data.toList.drop i := by
  intro n
  induction n with
  | zero => intro i r h; unfold ByteArray.toList.loop; rw [if_neg (by omega), List.drop_eq_nil_of_le (by rw [dlen]; omega)]; simp
  | succ n ih =>
    intro i r h
    have hi : i < s.data.toList.length := by rw [dlen]; omega
    unfold ByteArray.toList.loop
    rw [if_pos (by omega), ih _ _ (by omega), List.drop_eq_getElem_cons hi]
    have : s.get! i = s.data.toList[i] := by
      cases s with
      | mk data =>
        show data[i]! = data.toList[i]
        rw [getElem!_pos data i (by simpa using hi)]
        simp
    rw [this]
    simp
theorem toList_is (s : ByteArray) : s.toList = s.data.toList := by
  unfold ByteArray.toList
  rw [loop_is s _ 0 [] rfl]
  simp
end Go.Proofs.Ytiopbjgpaidemaa

namespace Go.Proofs.Ytiopbjgpaidemaa
open Go.RowKit Go.Shelf

variable {P : Program}

end Go.Proofs.Ytiopbjgpaidemaa

namespace Go.Proofs.Ytiopbjgpaidemaa
open Go.RowKit Go.Shelf

attribute [local go_sem] Oper.semAt_some

end Go.Proofs.Ytiopbjgpaidemaa

namespace Go.Proofs.Ytiopbjgpaidemaa
open Go.RowKit Go.Shelf

attribute [local go_sem] Oper.semAt_some

end Go.Proofs.Ytiopbjgpaidemaa

namespace Go.Proofs.Ytiopbjgpaidemaa
open Go.RowKit Go.Shelf

attribute [local go_sem] Oper.semAt_some

abbrev fV (i : Nat) : Value := .func (.func i) #[] #[]
def longA (d : AltD) : Bool := decide (30 < d.l.length)
def longR (r : RlD) : Bool := decide (30 < r.ds.length) || r.ds.any longA
def longG (rs : List RlD) : Bool := decide (60 < rs.length) || rs.any longR

set_option maxRecDepth 100000 in
set_option maxHeartbeats 1000000 in
theorem longA_any (d : AltD) (w : World) :
    Calls Try.prog 164 #[.slice d.a d.l.length d.c] w fun e w' => e = .returned (.bool (longA d)) ∧ Below w.heap.size w w' := by
  unfold longA
  obtain ⟨L, HL⟩ : ∃ L, Hid (d.l.length = L) := ⟨_, Lib.hid rfl⟩
  rw [HL.out]
  by_cases h : 30 < L
  · have hI : (30 : Int) < (L : Int) := by omega
    have HT : Hid (decide (30 < L) = true) := Lib.hid (decide_eq_true h)
    rw [HT.out]
    go_enter Try.func164, Try.ntmps164
    go_wp2_with (fail)
    exact bodyPost_ret (v := .bool true) (by simp [results, Try.results164, go_sem]; try first | rfl | assumption | omega) rfl ⟨rfl, Below.refl _ _⟩
  · have hI : ¬ (30 : Int) < (L : Int) := by omega
    have HT : Hid (decide (30 < L) = false) := Lib.hid (decide_eq_false h)
    rw [HT.out]
    go_enter Try.func164, Try.ntmps164
    go_wp2_with (fail)
    exact bodyPost_ret (v := .bool false) (by simp [results, Try.results164, go_sem]; try first | rfl | assumption | omega) rfl ⟨rfl, Below.refl _ _⟩

set_option maxRecDepth 100000 in
set_option maxHeartbeats 1000000 in
theorem indexA_any (l : List AltD) (a : Option Addr) (cap : Nat) (w : World) (hl : Alts w a cap l) :
    Calls Try.prog 172 #[.slice a l.length cap, fV 164] w fun r w' => (∃ i : Int, r = .returned (.int .i64 i) ∧ decide (0 ≤ i) = l.any longA) ∧ Below w.heap.size w w' := by
  have hlm : l.length ≤ cap ∧ cap ≤ 9223372036854775807 := ⟨by have := hl.row.le; rw [List.length_map] at this; exact this, hl.row.max⟩
  obtain ⟨L, HL⟩ : ∃ L, Hid (l.length = L) := ⟨_, Lib.hid rfl⟩
  rw [HL.out] at hlm ⊢
  obtain ⟨R, hR⟩ : ∃ R, Hid (l.any longA = R) := ⟨_, Lib.hid rfl⟩
  rw [hR.out]
  go_enter Try.func172, Try.ntmps172
  go_wp2_with (fail)
  go_loopw [5, 8] (fun _ iv wr => ∃ k : Nat, k ≤ L ∧ iv = .int .i64 (k : Int) ∧ R = (l.drop k).any longA ∧ Below w.heap.size w wr) (fun _ iv _ => L - (intOf iv).toNat)
  case atStart => exact ⟨0, Nat.zero_le _, rfl, hR.out.symm, Below.refl _ _⟩
  case round =>
    obtain ⟨k, hk, rfl, hr, hbr⟩ := hrel
    have HR := Lib.hid hr
    clear hr
    by_cases hlt : k < L
    · have hkI : (k : Int) < (L : Int) := by omega
      have hkI0 : (0 : Int) ≤ (k : Int) := by omega
      have hkl : k < l.length := by rw [HL.out]; exact hlt
      obtain ⟨b, off, rfl⟩ := hl.row.at_ k (by rw [List.length_map]; exact hkl)
      have c0 := (hl.row.grown hbr).cell b off rfl k (by rw [List.length_map]; exact hkl)
      rw [List.getElem_map] at c0
      have hdr : Hid (l.drop k = l[k] :: l.drop (k + 1)) := Lib.hid (List.drop_eq_getElem_cons hkl)
      have hm : l[k] ∈ l := List.getElem_mem hkl
      obtain ⟨e, he⟩ : ∃ v, Hid (l[k] = v) := ⟨_, Lib.hid rfl⟩
      rw [he.out] at c0 hm
      have hbl := World.block_lt_of_cell? wr _ c0
      have hc := longA_any e wr
      obtain ⟨S, hS⟩ : ∃ S, Hid (longA e = S) := ⟨_, Lib.hid rfl⟩
      rw [hS.out] at hc
      have Hc := Lib.hid hc
      clear hc hm
      go_wp2_with (fail)
      refine Hc.out.mono ?_
      rintro r w3 ⟨rfl, hb3⟩
      have hb03 := hbr.trans (hb3.mono hbr.size)
      cases S
      · go_wp2_with (fail)
        exact ⟨⟨k + 1, by omega, by simp, by rw [HR.out, hdr.out, List.any_cons, he.out, hS.out, Bool.false_or], hb03⟩, by simp [intOf]; omega⟩
      · have hF : Hid (R = true) := Lib.hid (by rw [HR.out, hdr.out, List.any_cons, he.out, hS.out, Bool.true_or])
        go_wp2_with (fail)
        exact bodyPost_ret (v := .int .i64 (k : Int)) (by simp [results, Try.results172, go_sem]; try first | rfl | assumption | omega) rfl ⟨⟨_, rfl, by rw [hF.out]; exact decide_eq_true hkI0⟩, hb03⟩
    · obtain rfl : k = L := by omega
      have hkI : ¬ (k : Int) < (k : Int) := by omega
      have hT : Hid (R = false) := Lib.hid (by rw [HR.out, List.drop_eq_nil_of_le (by rw [HL.out]; exact Nat.le_refl _)]; rfl)
      go_wp2_with (fail)
      exact bodyPost_ret (v := .int .i64 (-1)) (by simp [results, Try.results172, go_sem]; try first | rfl | assumption | omega) rfl ⟨⟨_, rfl, by rw [hT.out]; rfl⟩, hbr⟩

set_option maxRecDepth 100000 in
set_option maxHeartbeats 1000000 in
theorem containsA_any (l : List AltD) (a : Option Addr) (cap : Nat) (w : World) (hl : Alts w a cap l) :
    Calls Try.prog 163 #[.slice a l.length cap, fV 164] w fun r w' => r = .returned (.bool (l.any longA)) ∧ Below w.heap.size w w' := by
  have Hc := Lib.hid (indexA_any l a cap w hl)
  obtain ⟨R, hR⟩ : ∃ R, Hid (l.any longA = R) := ⟨_, Lib.hid rfl⟩
  rw [hR.out] at Hc ⊢
  obtain ⟨L, HL⟩ : ∃ L, Hid (l.length = L) := ⟨_, Lib.hid rfl⟩
  rw [HL.out] at Hc ⊢
  clear hl
  go_enter Try.func163, Try.ntmps163
  go_wp2_with (fail)
  refine Hc.out.mono ?_
  rintro r w1 ⟨⟨i, rfl, hi⟩, hb1⟩
  have HI := Lib.hid hi
  clear hi
  by_cases h0 : (0 : Int) ≤ i
  · have hF : Hid (R = true) := Lib.hid (by rw [← HI.out]; exact decide_eq_true h0)
    go_wp2_with (fail)
    exact bodyPost_ret (v := .bool true) (by simp [results, Try.results163, go_sem]; try first | rfl | assumption | omega) rfl ⟨by rw [hF.out], hb1⟩
  · have hF : Hid (R = false) := Lib.hid (by rw [← HI.out]; exact decide_eq_false h0)
    go_wp2_with (fail)
    exact bodyPost_ret (v := .bool false) (by simp [results, Try.results163, go_sem]; try first | rfl | assumption | omega) rfl ⟨by rw [hF.out], hb1⟩

set_option maxRecDepth 100000 in
set_option maxHeartbeats 1000000 in
theorem longR_any (r : RlD) (w : World) (hr : Alts w r.a r.c r.ds) :
    Calls Try.prog 142 #[.agg #[.string r.n, .slice r.a r.ds.length r.c]] w fun e w' => e = .returned (.bool (longR r)) ∧ Below w.heap.size w w' := by
  have hlm := (⟨by have := hr.row.le; rw [List.length_map] at this; exact this, hr.row.max⟩ : r.ds.length ≤ r.c ∧ r.c ≤ 9223372036854775807)
  have hA0 := Blk.new w 34 #[.string r.n, .slice r.a r.ds.length r.c]
  have hb0 : Below w.heap.size w (w.alloc (.cells #[.string r.n, .slice r.a r.ds.length r.c] 34)) := (Below.refl _ w).alloc (Nat.le_refl _) _
  have Hc := Lib.hid (containsA_any r.ds r.a r.c _ (hr.grown hb0))
  unfold longR
  obtain ⟨R, hR⟩ : ∃ R, Hid (r.ds.any longA = R) := ⟨_, Lib.hid rfl⟩
  rw [hR.out] at Hc ⊢
  obtain ⟨L, HL⟩ : ∃ L, Hid (r.ds.length = L) := ⟨_, Lib.hid rfl⟩
  rw [HL.out] at hA0 hb0 Hc hlm ⊢
  have x0 := hA0.cell 0
  have x1 := hA0.cell 1
  have xl := hA0.lt
  simp only [List.getElem?_cons_zero, List.getElem?_cons_succ] at x0 x1
  by_cases h : 30 < L
  · have hI : (30 : Int) < (L : Int) := by omega
    have HT : Hid (decide (30 < L) = true) := Lib.hid (decide_eq_true h)
    rw [HT.out, Bool.true_or]
    go_enter Try.func142, Try.ntmps142
    go_wp2_with (fail)
    exact bodyPost_ret (v := .bool true) (by simp [results, Try.results142, go_sem]; try first | rfl | assumption | omega) rfl ⟨rfl, hb0⟩
  · have hI : ¬ (30 : Int) < (L : Int) := by omega
    have HT : Hid (decide (30 < L) = false) := Lib.hid (decide_eq_false h)
    rw [HT.out, Bool.false_or]
    go_enter Try.func142, Try.ntmps142
    go_wp2_with (fail)
    refine Hc.out.mono ?_
    rintro e w1 ⟨rfl, hb1⟩
    have hb2 := hb0.trans (hb1.mono hb0.size)
    cases R
    · go_wp2_with (fail)
      exact bodyPost_ret (v := .bool false) (by simp [results, Try.results142, go_sem]; try first | rfl | assumption | omega) rfl ⟨rfl, hb2⟩
    · go_wp2_with (fail)
      exact bodyPost_ret (v := .bool true) (by simp [results, Try.results142, go_sem]; try first | rfl | assumption | omega) rfl ⟨rfl, hb2⟩

set_option maxRecDepth 100000 in
set_option maxHeartbeats 1000000 in
theorem indexR_any (l : List RlD) (a : Option Addr) (cap : Nat) (w : World) (hl : Rls w a cap l) :
    Calls Try.prog 162 #[.slice a l.length cap, fV 142] w fun r w' => (∃ i : Int, r = .returned (.int .i64 i) ∧ decide (0 ≤ i) = l.any longR) ∧ Below w.heap.size w w' := by
  have hlm : l.length ≤ cap ∧ cap ≤ 9223372036854775807 := ⟨hl.le, hl.max⟩
  obtain ⟨L, HL⟩ : ∃ L, Hid (l.length = L) := ⟨_, Lib.hid rfl⟩
  rw [HL.out] at hlm ⊢
  obtain ⟨R, hR⟩ : ∃ R, Hid (l.any longR = R) := ⟨_, Lib.hid rfl⟩
  rw [hR.out]
  go_enter Try.func162, Try.ntmps162
  go_wp2_with (fail)
  go_loopw [5, 8] (fun _ iv wr => ∃ k : Nat, k ≤ L ∧ iv = .int .i64 (k : Int) ∧ R = (l.drop k).any longR ∧ Below w.heap.size w wr) (fun _ iv _ => L - (intOf iv).toNat)
  case atStart => exact ⟨0, Nat.zero_le _, rfl, hR.out.symm, Below.refl _ _⟩
  case round =>
    obtain ⟨k, hk, rfl, hr, hbr⟩ := hrel
    have HR := Lib.hid hr
    clear hr
    by_cases hlt : k < L
    · have hkI : (k : Int) < (L : Int) := by omega
      have hkI0 : (0 : Int) ≤ (k : Int) := by omega
      have hkl : k < l.length := by rw [HL.out]; exact hlt
      obtain ⟨b, off, rfl⟩ := hl.at_ k hkl
      obtain ⟨c0, c1⟩ := (hl.grown hbr).cell b off rfl k hkl
      have hdr : Hid (l.drop k = l[k] :: l.drop (k + 1)) := Lib.hid (List.drop_eq_getElem_cons hkl)
      have hm : l[k] ∈ l := List.getElem_mem hkl
      obtain ⟨e, he⟩ : ∃ v, Hid (l[k] = v) := ⟨_, Lib.hid rfl⟩
      rw [he.out] at c0 c1 hm
      have hbl := World.block_lt_of_cell? wr _ c0
      have hc := longR_any e wr ((hl.alts e hm).grown hbr)
      obtain ⟨S, hS⟩ : ∃ S, Hid (longR e = S) := ⟨_, Lib.hid rfl⟩
      rw [hS.out] at hc
      have Hc := Lib.hid hc
      clear hc hm
      go_wp2_with (fail)
      refine Hc.out.mono ?_
      rintro r w3 ⟨rfl, hb3⟩
      have hb03 := hbr.trans (hb3.mono hbr.size)
      cases S
      · go_wp2_with (fail)
        exact ⟨⟨k + 1, by omega, by simp, by rw [HR.out, hdr.out, List.any_cons, he.out, hS.out, Bool.false_or], hb03⟩, by simp [intOf]; omega⟩
      · have hF : Hid (R = true) := Lib.hid (by rw [HR.out, hdr.out, List.any_cons, he.out, hS.out, Bool.true_or])
        go_wp2_with (fail)
        exact bodyPost_ret (v := .int .i64 (k : Int)) (by simp [results, Try.results162, go_sem]; try first | rfl | assumption | omega) rfl ⟨⟨_, rfl, by rw [hF.out]; exact decide_eq_true hkI0⟩, hb03⟩
    · obtain rfl : k = L := by omega
      have hkI : ¬ (k : Int) < (k : Int) := by omega
      have hT : Hid (R = false) := Lib.hid (by rw [HR.out, List.drop_eq_nil_of_le (by rw [HL.out]; exact Nat.le_refl _)]; rfl)
      go_wp2_with (fail)
      exact bodyPost_ret (v := .int .i64 (-1)) (by simp [results, Try.results162, go_sem]; try first | rfl | assumption | omega) rfl ⟨⟨_, rfl, by rw [hT.out]; rfl⟩, hbr⟩

set_option maxRecDepth 100000 in
set_option maxHeartbeats 1000000 in
theorem containsR_any (l : List RlD) (a : Option Addr) (cap : Nat) (w : World) (hl : Rls w a cap l) :
    Calls Try.prog 141 #[.slice a l.length cap, fV 142] w fun r w' => r = .returned (.bool (l.any longR)) ∧ Below w.heap.size w w' := by
  have Hc := Lib.hid (indexR_any l a cap w hl)
  obtain ⟨R, hR⟩ : ∃ R, Hid (l.any longR = R) := ⟨_, Lib.hid rfl⟩
  rw [hR.out] at Hc ⊢
  obtain ⟨L, HL⟩ : ∃ L, Hid (l.length = L) := ⟨_, Lib.hid rfl⟩
  rw [HL.out] at Hc ⊢
  clear hl
  go_enter Try.func141, Try.ntmps141
  go_wp2_with (fail)
  refine Hc.out.mono ?_
  rintro r w1 ⟨⟨i, rfl, hi⟩, hb1⟩
  have HI := Lib.hid hi
  clear hi
  by_cases h0 : (0 : Int) ≤ i
  · have hF : Hid (R = true) := Lib.hid (by rw [← HI.out]; exact decide_eq_true h0)
    go_wp2_with (fail)
    exact bodyPost_ret (v := .bool true) (by simp [results, Try.results141, go_sem]; try first | rfl | assumption | omega) rfl ⟨by rw [hF.out], hb1⟩
  · have hF : Hid (R = false) := Lib.hid (by rw [← HI.out]; exact decide_eq_false h0)
    go_wp2_with (fail)
    exact bodyPost_ret (v := .bool false) (by simp [results, Try.results141, go_sem]; try first | rfl | assumption | omega) rfl ⟨by rw [hF.out], hb1⟩

set_option maxRecDepth 100000 in
set_option maxHeartbeats 1000000 in
theorem longG_any (rs : List RlD) (a : Option Addr) (cap : Nat) (w : World) (hr : Rls w a cap rs) :
    Calls Try.prog 118 #[.agg #[.slice a rs.length cap]] w fun e w' => e = .returned (.bool (longG rs)) ∧ Below w.heap.size w w' := by
  have hlm := (⟨hr.le, hr.max⟩ : rs.length ≤ cap ∧ cap ≤ 9223372036854775807)
  have hA0 := Blk.new w 24 #[.slice a rs.length cap]
  have hb0 : Below w.heap.size w (w.alloc (.cells #[.slice a rs.length cap] 24)) := (Below.refl _ w).alloc (Nat.le_refl _) _
  have Hc := Lib.hid (containsR_any rs a cap _ (hr.grown hb0))
  unfold longG
  obtain ⟨R, hR⟩ : ∃ R, Hid (rs.any longR = R) := ⟨_, Lib.hid rfl⟩
  rw [hR.out] at Hc ⊢
  obtain ⟨L, HL⟩ : ∃ L, Hid (rs.length = L) := ⟨_, Lib.hid rfl⟩
  rw [HL.out] at hA0 hb0 Hc hlm ⊢
  have x0 := hA0.cell 0
  have xl := hA0.lt
  simp only [List.getElem?_cons_zero] at x0
  by_cases h : 60 < L
  · have hI : (60 : Int) < (L : Int) := by omega
    have HT : Hid (decide (60 < L) = true) := Lib.hid (decide_eq_true h)
    rw [HT.out, Bool.true_or]
    go_enter Try.func118, Try.ntmps118
    go_wp2_with (fail)
    exact bodyPost_ret (v := .bool true) (by simp [results, Try.results118, go_sem]; try first | rfl | assumption | omega) rfl ⟨rfl, hb0⟩
  · have hI : ¬ (60 : Int) < (L : Int) := by omega
    have HT : Hid (decide (60 < L) = false) := Lib.hid (decide_eq_false h)
    rw [HT.out, Bool.false_or]
    go_enter Try.func118, Try.ntmps118
    go_wp2_with (fail)
    refine Hc.out.mono ?_
    rintro e w1 ⟨rfl, hb1⟩
    have hb2 := hb0.trans (hb1.mono hb0.size)
    cases R
    · go_wp2_with (fail)
      exact bodyPost_ret (v := .bool false) (by simp [results, Try.results118, go_sem]; try first | rfl | assumption | omega) rfl ⟨rfl, hb2⟩
    · go_wp2_with (fail)
      exact bodyPost_ret (v := .bool true) (by simp [results, Try.results118, go_sem]; try first | rfl | assumption | omega) rfl ⟨rfl, hb2⟩
end Go.Proofs.Ytiopbjgpaidemaa

