/- Texts joined: Oh Oi Je Jf Jg Jj Jk Jh Sj Ji Jl Jm It Iu Iv Iw Jn Wh Law Xz Ix Iy Iz Ka Kb Kd Kg. -/
import Derived.Test.YthogiakfbgehnaaREAf
import Derived.Test.YthogiakfbgehnaaREAa
import Derived.Deep.LoopGhost
import Derived.Maps.RangeWalk
import Derived.Test.YthogiakfbgehnaaREAe
import Derived.Test.YthogiakfbgehnaaREAd
import Derived.Shelf.SlIterI.Sorted
import Derived.Test.YthogiakfbgehnaaProg
import Derived.Ground.NamesProg
import Derived.Shelf.Sort.Plain
import Derived.Shelf.Slices.In.SortNone
import Derived.Lib.SlKeysI
import Derived.Test.YthogiakfbgehnaaREAc
import Derived.Test.YthogiakfbgehnaaRows
import Derived.WalkKit
import Derived.ProofKit
import Derived.OpenShut
import Derived.JoinedCond
set_option linter.unusedVariables false
set_option linter.unusedSimpArgs false
namespace Go.Proofs.Ythogiakfbgehnaa
open Go.RowKit Go.Maps

attribute [local go_sem] Oper.semAt_some

/-- An own row of keys. -/
abbrev OwnKZ (W : World) (base : Nat) (a : Option Addr) (cap : Nat) (l : List Int) : Prop := W.ownsRow base 3 1 (.slice a l.length cap) l.length (l.map (Value.int .i64))
theorem info_keyZ : (Try.prog.info? 3).map (fun i => (i.zero, i.size, i.bytes)) = some (some (.int .i64 0), 1, 8) := by kernel_rfl
theorem OwnKZ.le {W : World} {base cap : Nat} {a : Option Addr} {l : List Int} (h : OwnKZ W base a cap l) : l.length ≤ cap ∧ cap ≤ 9223372036854775807 := by
  rcases h.2 with ⟨e1, e2⟩ | ⟨g, cap', cur, e1, hb, hg, hle, hm, hs, ht⟩
  · simp only [Value.slice.injEq] at e1
    omega
  · simp only [Value.slice.injEq] at e1
    unfold maxLen at hm
    omega
theorem OwnKZ.at {W : World} {base cap : Nat} {a : Option Addr} {l : List Int} (h : OwnKZ W base a cap l) (i : Nat) (hi : i < l.length) :
    ∃ g, a = some ⟨g, 0, none⟩ ∧ base ≤ g ∧ g < W.heap.size ∧ W.cell? ⟨g, i, none⟩ = some (.int .i64 l[i]) := by
  rcases h.2 with ⟨_, e2⟩ | ⟨g, cap', cur, e1, hb, hg, hle, hm, hs, ht⟩
  · omega
  · simp only [Value.slice.injEq] at e1
    obtain ⟨rfl, -, rfl⟩ := e1
    have h1 := h.cellAt i (by omega)
    exact ⟨g, rfl, hb, (Array.getElem?_eq_some_iff.1 hg).1, by rw [h1, List.getElem?_map, List.getElem?_eq_getElem hi]; rfl⟩
theorem OwnKZ.nil (W : World) (base : Nat) : OwnKZ W base none 0 [] := World.ownsRow_nil W base _ 1
theorem OwnKZ.kept {w w' : World} {base cap : Nat} {a : Option Addr} {l : List Int} {row : Option Nat} (h : OwnKZ w base a cap l) (hg : w.grownBy w' row) (hr : ∀ g, row = some g → (Value.slice a l.length cap).ownBlock ≠ some g) : OwnKZ w' base a cap l := by
  refine World.ownsRow.kept h hg ?_
  cases e : (Value.slice a l.length cap).ownBlock with
  | none => exact .inl rfl
  | some g => exact .inr (fun e2 => hr g e2.symm e)
/-- A key is put onto an own row; where the row lies then. -/
theorem OwnKZ.push {w : World} {base cap : Nat} {a : Option Addr} {l : List Int} (h : OwnKZ w base a cap l) (x : Int) (ty : TypeId) (hn : l.length + 1 ≤ 1000000000) (hb : base ≤ w.heap.size) :
    ∃ a' c' w', (Builtin.append_ #[35, 35] ty #[.slice a l.length cap, .slice (some ⟨w.heap.size, 0, none⟩) 1 1]).run Try.prog (w.alloc (.cells #[.int .i64 x] 3)) = .ok (.slice a' (l.length + 1) c') w' ∧
      OwnKZ w' base a' c' (l ++ [x]) ∧ w.grownBy w' (Value.slice a l.length cap).ownBlock ∧ (∀ g, (Value.slice a' (l ++ [x]).length c').ownBlock = some g → (Value.slice a l.length cap).ownBlock = some g ∨ w.heap.size ≤ g) := by
  obtain ⟨i0, hi, hz0, hz1, hz2⟩ := info_parts info_keyZ
  have hnew : ∀ j u, [(.int .i64 x : Value)][j]? = some u → (w.alloc (.cells #[.int .i64 x] 3)).cell? ((⟨w.heap.size, 0, none⟩ : Addr).add j) = some u := cell_one_new w (.int .i64 x) _
  obtain ⟨v', w', hrun, ho, hg, _, hw⟩ := run_append_own_at (P := Try.prog) (w := w.alloc (.cells #[.int .i64 x] 3)) base 35 ty 3 i0 _ 1 8 Try.underlying35 hi hz0 hz1 hz2 rfl (by decide) _ _ _ (h.alloc _) ⟨w.heap.size, 0, none⟩ 1 1 [.int .i64 x] rfl hnew (fun u hu => by
    simp only [List.mem_cons, List.not_mem_nil, or_false] at hu
    subst hu
    rfl) (by unfold maxLen; omega) (by omega) (by simp; omega)
  obtain ⟨a', cap', rfl⟩ := slice_of_own ho
  refine ⟨a', cap', w', hrun, ?_, grownBy_trans (World.grownBy_alloc w _ _) hg (fun i e => .inl e), fun g e => ?_⟩
  · unfold OwnKZ
    rw [List.map_append, List.length_append]
    simpa using ho
  · have e2 : (Value.slice a' (l.length + 1) cap').ownBlock = some g := by simpa using e
    rcases hw with hw | hw
    · exact .inl (by rw [← hw]; exact e2)
    · rw [hw] at e2
      have := Option.some.inj e2
      exact .inr (by rw [← this]; simp)
theorem OwnKZ.vs {W : World} {base cap : Nat} {a : Option Addr} {l : List Int} (h : OwnKZ W base a cap l) : Vs W a cap (l.map (Value.int .i64)) where
  le := by rw [List.length_map]; exact h.le.1
  max := h.le.2
  nil_ := fun e => by
    subst e
    rcases h.2 with ⟨e1, e2⟩ | ⟨g, cap', cur, e1, _⟩
    · simp only [Value.slice.injEq] at e1
      exact e1.2.2
    · cases e1
  at_ := fun i hi => by
    obtain ⟨g, e, _⟩ := h.at i (by simpa using hi)
    exact ⟨g, 0, e⟩
  cell := fun b off e i hi => by
    obtain ⟨g, e2, _, _, h4⟩ := h.at i (by simpa using hi)
    rw [e2] at e
    cases e
    rw [Nat.zero_add, h4, List.getElem_map]

end Go.Proofs.Ythogiakfbgehnaa

namespace Go.Proofs.Ythogiakfbgehnaa
open Go.RowKit Go.Maps

attribute [local go_sem] Oper.semAt_some

end Go.Proofs.Ythogiakfbgehnaa

namespace Go.Proofs.Ythogiakfbgehnaa
open Go.RowKit Go.Maps Go.WideMaps

end Go.Proofs.Ythogiakfbgehnaa

namespace Go.Proofs.Ythogiakfbgehnaa
open Go.RowKit Go.Maps

attribute [local go_sem] Oper.semAt_some

end Go.Proofs.Ythogiakfbgehnaa

namespace Go.Proofs.Ythogiakfbgehnaa
open Go.RowKit Go.Maps

attribute [local go_sem] Oper.semAt_some

end Go.Proofs.Ythogiakfbgehnaa

namespace Go.Proofs.Ythogiakfbgehnaa
open Go.RowKit Go.Maps

attribute [local go_sem] Oper.semAt_some

end Go.Proofs.Ythogiakfbgehnaa

namespace Go.Proofs.Ythogiakfbgehnaa
open Go.RowKit Go.Maps

attribute [local go_sem] Oper.semAt_some

end Go.Proofs.Ythogiakfbgehnaa

namespace Go.Proofs
open Go.Shelf
end Go.Proofs

namespace Go.Proofs
open Go.Shelf
end Go.Proofs

namespace Go.Proofs.Ythogiakfbgehnaa
open Go.RowKit Go.Maps Go.WideMaps Go.Sort Go.Shelf

/-- A rising list of just the numbers that are meant. -/
structure Ris (l : List Int) (P : Int → Prop) : Prop where
  up : l.Pairwise (· < ·)
  mem : ∀ x, x ∈ l ↔ P x
theorem ris_same : ∀ {l m : List Int}, l.Pairwise (· < ·) → m.Pairwise (· < ·) → (∀ x, x ∈ l ↔ x ∈ m) → l = m
  | [], [], _, _, _ => rfl
  | [], y :: m, _, _, h => by have := (h y).2 (by simp); cases this
  | x :: l, [], _, _, h => by have := (h x).1 (by simp); cases this
  | x :: l, y :: m, hl, hm, h => by
    rw [List.pairwise_cons] at hl hm
    have e : x = y := by
      have h1 := (h x).1 (by simp)
      have h2 := (h y).2 (by simp)
      rcases List.mem_cons.1 h1 with h1 | h1
      · exact h1
      · rcases List.mem_cons.1 h2 with h2 | h2
        · exact h2.symm
        · have := hm.1 x h1
          have := hl.1 y h2
          omega
    subst e
    congr 1
    refine ris_same hl.2 hm.2 (fun z => ⟨fun hz => ?_, fun hz => ?_⟩)
    · rcases List.mem_cons.1 ((h z).1 (List.mem_cons_of_mem _ hz)) with e | h1
      · have := hl.1 z hz
        omega
      · exact h1
    · rcases List.mem_cons.1 ((h z).2 (List.mem_cons_of_mem _ hz)) with e | h1
      · have := hm.1 z hz
        omega
      · exact h1
theorem Ris.same {l m : List Int} {P Q : Int → Prop} (hl : Ris l P) (hm : Ris m Q) (h : ∀ x, P x ↔ Q x) : l = m :=
  ris_same hl.up hm.up (fun x => (hl.mem x).trans ((h x).trans (hm.mem x).symm))
end Go.Proofs.Ythogiakfbgehnaa

namespace Go.Proofs.Ythogiakfbgehnaa
open Go.RowKit Go.Maps

attribute [local go_sem] Oper.semAt_some

end Go.Proofs.Ythogiakfbgehnaa

namespace Go.Proofs.Ythogiakfbgehnaa
open Go.RowKit Go.Maps

attribute [local go_sem] Oper.semAt_some

end Go.Proofs.Ythogiakfbgehnaa

namespace Go.Proofs.Ythogiakfbgehnaa
open Go.RowKit

attribute [local go_sem] Oper.semAt_some

/-- Whether a number is a token's or a rule's. -/
def okN (t n : Nat) (x : Int) : Bool := !(decide (x < -(n : Int)) || decide ((t : Int) ≤ x))
def numsB (p : CfP) : Bool := p.alts.all (fun r => r.all (fun a => a.all (okN p.toks.length p.names.length)))
/-- The name of a number. -/
def nmP (ts ns : List ByteArray) (x : Int) : ByteArray := if x < 0 then ns.getD (-1 - x).toNat ⟨#[]⟩ else ts.getD x.toNat ⟨#[]⟩
theorem okN_iff {t n : Nat} {x : Int} : okN t n x = true ↔ -(n : Int) ≤ x ∧ x < (t : Int) := by
  unfold okN
  simp only [Bool.not_eq_true', Bool.or_eq_false_iff, decide_eq_false_iff_not]
  omega

end Go.Proofs.Ythogiakfbgehnaa

namespace Go.Proofs.Ythogiakfbgehnaa
open Go.RowKit Go.Maps

attribute [local go_sem] Oper.semAt_some

/-- Why there is no grammar; 0: there is one. -/
def backE (p : CfP) : Int := if p.names.length = p.alts.length then if numsB p = true then 0 else 1 else 1
/-- Rules by names. -/
def backR (ts ns : List ByteArray) : List ByteArray → List (List (List Int)) → List Rl
  | n :: l, a :: al => (n, a.map (fun x => x.map (nmP ts ns))) :: backR ts ns l al
  | _, _ => []
def backG (p : CfP) : List Rl := backR p.toks p.names p.names p.alts
/-- What Back answers. -/
def BackQ (w : World) (E : Int) (G : List Rl) (e : Ending) (W' : World) : Prop := ∃ (rs : List RlD) (a : Option Addr) (c : Nat), e = .returned (.tuple #[.agg #[.slice a rs.length c], .int .i64 E]) ∧ Rls W' a c rs ∧ grP rs = (if E = 0 then G else []) ∧ Below w.heap.size w W'
theorem backR_take (ts ns : List ByteArray) : ∀ (l : List ByteArray) (al : List (List (List Int))) (k : Nat) (h1 : k < l.length) (h2 : k < al.length), backR ts ns (l.take (k + 1)) (al.take (k + 1)) = backR ts ns (l.take k) (al.take k) ++ [(l[k], al[k].map (fun x => x.map (nmP ts ns)))]
  | n :: l, a :: al, 0, _, _ => by cases l <;> cases al <;> rfl
  | n :: l, a :: al, k + 1, h1, h2 => by
    have := backR_take ts ns l al k (by simpa using h1) (by simpa using h2)
    simp only [List.take_succ_cons, backR, List.getElem_cons_succ, List.cons_append]
    rw [this]
/-- What Back keeps while it turns numbers into names. -/
structure BkSt (w1 wr : World) (cb : Nat) (p : CfP) (k : Nat) (ga : Option Addr) (gc : Nat) (rs : List RlD) : Prop where
  box : Blk wr cb 124 [.slice ga k gc]
  row : OwnR wr cb ga gc rs
  len : rs.length = k
  ins : ∀ r ∈ rs, OwnXS wr cb r.a r.c r.ds
  is_ : grP rs = backR p.toks p.names (p.names.take k) (p.alts.take k)
  frm : Below cb w1 wr

end Go.Proofs.Ythogiakfbgehnaa

namespace Go.Proofs.Ythogiakfbgehnaa
open Go.RowKit Go.Maps

attribute [local go_sem] Oper.semAt_some

/-- A grammar that lies nowhere. -/
def canR (r : Rl) : RlD := ⟨r.1, r.2.map (fun l => ⟨l, none, 0⟩), none, 0⟩
def can (G : List Rl) : List RlD := G.map canR
theorem grP_can (G : List Rl) : grP (can G) = G := by
  unfold grP can
  rw [List.map_map]
  refine (List.map_congr_left (fun r _ => ?_)).trans (List.map_id _)
  obtain ⟨n, al⟩ := r
  show (n, (al.map (fun l => (⟨l, none, 0⟩ : AltD))).map AltD.l) = (n, al)
  rw [List.map_map]
  exact congrArg (Prod.mk n) ((List.map_congr_left (fun l _ => rfl)).trans (List.map_id _))
def chkP (G : List Rl) : Int := if (G.all (fun r => nameB r.1 && decide (r.2.length ≠ 0) && r.2.all (fun a => a.all nameB)) && decide (0 < G.length)) = true then if (decide (60 < G.length) || G.any (fun r => decide (30 < r.2.length) || r.2.any (fun a => decide (30 < a.length)))) = true then 2 else 0 else 1
theorem chkG_is (rs : List RlD) : chkG rs = chkP (grP rs) := by
  have h1 : mayG rs = ((grP rs).all (fun r => nameB r.1 && decide (r.2.length ≠ 0) && r.2.all (fun a => a.all nameB)) && decide (0 < (grP rs).length)) := by
    unfold mayG grP
    rw [List.all_map, List.length_map]
    congr 2
    funext r
    simp [mayR, RlD.p, Function.comp, List.all_map]
    rfl
  have h2 : longG rs = (decide (60 < (grP rs).length) || (grP rs).any (fun r => decide (30 < r.2.length) || r.2.any (fun a => decide (30 < a.length)))) := by
    unfold longG grP
    rw [List.any_map, List.length_map]
    congr 2
    funext r
    simp [longR, RlD.p, Function.comp, List.any_map]
    rfl
  unfold chkG chkP
  rw [h1, h2]
theorem names_grP (rs : List RlD) : rs.map RlD.n = (grP rs).map Prod.fst := by simp [grP, RlD.p]
theorem FLW_congr {rs qs : List RlD} (h : grP rs = grP qs) (ts : List ByteArray) : FLW rs ts = FLW qs ts := by
  have hl : rs.length = qs.length := by
    have := congrArg List.length h
    unfold grP at this
    rwa [List.length_map, List.length_map] at this
  have hn : rs.map RlD.n = qs.map RlD.n := by rw [names_grP, names_grP, h]
  have hf : fertM rs ts = fertM qs ts := by unfold fertM; rw [h]
  have hm : nearM rs = nearM qs := by
    funext s
    rw [Bool.eq_iff_iff, nearM_iff, nearM_iff, h]
    cases rs with
    | nil =>
      have : qs = [] := List.length_eq_zero_iff.1 hl.symm
      rw [this]
    | cons r rs =>
      cases qs with
      | nil => simp at hl
      | cons q qs =>
        have : r.n = q.n := by
          rw [List.map_cons, List.map_cons] at hn
          exact (List.cons.inj hn).1
        simp [this]
  unfold FLW
  rw [hn, hf, hm, h, hl]
theorem numE_congr {rs qs : List RlD} (h : grP rs = grP qs) (ts : List ByteArray) : numE rs ts = numE qs ts := by
  unfold numE
  rw [chkG_is rs, chkG_is qs, FLW_congr h ts, h]
theorem numC_congr {rs qs : List RlD} (h : grP rs = grP qs) (ts : List ByteArray) : numC rs ts = numC qs ts := by
  have hn : rs.map RlD.n = qs.map RlD.n := by rw [names_grP, names_grP, h]
  have hl : rs.length = qs.length := by
    have := congrArg List.length h
    unfold grP at this
    rwa [List.length_map, List.length_map] at this
  have key : ∀ (rs : List RlD) (f : ByteArray → Int), rs.map (fun r => r.ds.map (fun d => d.l.map f)) = (grP rs).map (fun r => r.2.map (fun l => l.map f)) := fun rs f => by
    unfold grP
    rw [List.map_map]
    refine List.map_congr_left (fun r _ => ?_)
    simp [RlD.p, Function.comp, List.map_map]
  unfold numC
  rw [key, key, h, hn, hl]
/-- How many alternatives and numbers there are. -/
def szC (al : List (List (List Int))) : Nat := (al.map (fun r => r.length + (r.map List.length).sum)).sum
theorem back_sz (ts ns : List ByteArray) : ∀ (l : List ByteArray) (al : List (List (List Int))) (rs : List RlD), grP rs = backR ts ns l al → szR rs ≤ szC al ∧ rs.length ≤ l.length
  | [], al, rs, h => by
    have : rs = [] := by cases al <;> simpa [backR, grP] using h
    rw [this]; simp [szR]
  | n :: l, [], rs, h => by
    have : rs = [] := by simpa [backR, grP] using h
    rw [this]; simp [szR]
  | n :: l, a :: al, [], h => by simp [backR, grP] at h
  | n :: l, a :: al, r :: rs, h => by
    have h0 : r.p :: grP rs = (n, a.map (fun x => x.map (nmP ts ns))) :: backR ts ns l al := h
    obtain ⟨h1, h2⟩ := List.cons.inj h0
    obtain ⟨i1, i2⟩ := back_sz ts ns l al rs h2
    have h3 : r.ds.map AltD.l = a.map (fun x => x.map (nmP ts ns)) := (Prod.mk.inj h1).2
    have h4 : r.ds.length = a.length := by have := congrArg List.length h3; simpa using this
    have h5 : szA r.ds = (a.map List.length).sum := by
      have h6 := congrArg (List.map List.length) h3
      rw [List.map_map, List.map_map] at h6
      unfold szA
      rw [show (fun d : AltD => d.l.length) = List.length ∘ AltD.l from rfl, h6]
      congr 1
      refine List.map_congr_left (fun x _ => ?_)
      simp
    have e1 : szR (r :: rs) = (r.ds.length + szA r.ds) + szR rs := by simp [szR]
    have e2 : szC (a :: al) = (a.length + (a.map List.length).sum) + szC al := by simp [szC]
    rw [e1, e2, h4, h5]
    simp only [List.length_cons]
    omega
/-- Whether a grammar by numbers may be: what the program's Valid answers. -/
noncomputable def validE (p : CfP) : Int := if backE p = 0 then if numE (can (backG p)) p.toks = 0 then 0 else 80 else 80
/-- Few enough to be reckoned. -/
structure FewC (d : CfD) : Prop where
  few : d.toks.length + d.names.length + szC (d.alts.map IrD.p) ≤ 1000
  toks : ∀ t ∈ d.toks, t.size ≤ maxLen
  names : ∀ t ∈ d.names, t.size ≤ maxLen
theorem FewC.hs {d : CfD} (h : FewC d) : d.toks.length ≤ 1000000 ∧ d.names.length ≤ 1000000 ∧ ∀ r ∈ d.alts, r.ds.length ≤ 1000000 ∧ ∀ a ∈ r.ds, a.l.length ≤ 1000000 := by
  have hf := h.few
  have key : ∀ (al : List IrD) (r : IrD), r ∈ al → r.ds.length + (r.ds.map (fun a => a.l.length)).sum ≤ szC (al.map IrD.p) := by
    intro al
    induction al with
    | nil => intro r h; cases h
    | cons q al ih =>
      intro r hr
      have e : szC ((q :: al).map IrD.p) = (q.ds.length + (q.ds.map (fun a => a.l.length)).sum) + szC (al.map IrD.p) := by
        simp [szC, IrD.p, List.map_map]
        rfl
      rw [e]
      rcases List.mem_cons.1 hr with rfl | hr
      · omega
      · have := ih r hr
        omega
  have key2 : ∀ (ds : List IltD) (a : IltD), a ∈ ds → a.l.length ≤ (ds.map (fun a => a.l.length)).sum := by
    intro ds
    induction ds with
    | nil => intro a h; cases h
    | cons q ds ih =>
      intro a ha
      rw [List.map_cons, List.sum_cons]
      rcases List.mem_cons.1 ha with rfl | ha
      · omega
      · have := ih a ha
        omega
  refine ⟨by omega, by omega, fun r hr => ?_⟩
  have h1 := key d.alts r hr
  exact ⟨by omega, fun a ha => by have := key2 r.ds a ha; omega⟩

end Go.Proofs.Ythogiakfbgehnaa

namespace Go.Proofs.Ythogiakfbgehnaa
open Go.RowKit Go.Maps

attribute [local go_sem] Oper.semAt_some

theorem up1 (w : World) (o : Obj) : Below w.heap.size w (w.alloc o) := (Below.refl _ w).alloc (Nat.le_refl _) o

end Go.Proofs.Ythogiakfbgehnaa

namespace Go.Proofs.Ythogiakfbgehnaa
open Go.RowKit Go.Maps

attribute [local go_sem] Oper.semAt_some

end Go.Proofs.Ythogiakfbgehnaa

namespace Go.Proofs.Ythogiakfbgehnaa
open Go.RowKit Go.Maps

attribute [local go_sem] Oper.semAt_some

end Go.Proofs.Ythogiakfbgehnaa

namespace Go.Proofs.Ythogiakfbgehnaa
open Go.ChangeShapes Go.WideShapes Go.ChangeAt Go.RowKit

theorem Try.own : ownKnob Try.prog.godebug = none := by kernel_rfl
theorem Try.laidOut : laidOutB Try.prog = true := by kernel_rfl

theorem trodAll_stays {H : Type} {enc : TypeId × Value → H} {P : Program} (hl : laidOutB P = true) {W W' : World} {sp : Nat → Bool} : ∀ (ts : List TypeId) (vs : List Value) (ds : List (DataW H)) (ps : List MemPlace),
    (∀ t ∈ ts, P.readableRec t = true ∧ t < P.types.size) → DataW.TrodAll enc P W 0 (fun _ => true) true ts vs ds ps → (∀ p ∈ ps, W.sameAt W' p) → (∀ p ∈ ps, sp p.block = true) → DataW.TrodAll enc P W' 0 sp true ts vs ds ps
  | [], _, _, _, _, h, _, _ => by
    obtain ⟨rfl, rfl, rfl⟩ := trodAll_nil h
    exact trodAll_mk0
  | t :: ts, _, _, _, hr, h, hs, hp => by
    obtain ⟨v, vs1, d, ds1, a, b, rfl, rfl, rfl, h1, h2⟩ := trodAll_cons h
    have ht := hr t (List.mem_cons_self ..)
    exact trodAll_cons_mk (WideElems.Trod_stays hl ht.1 ht.2 h1 (fun x hx => hs x (List.mem_append_left _ hx)) (fun x hx => hp x (List.mem_append_left _ hx)))
      (trodAll_stays hl ts vs1 ds1 b (fun t h => hr t (List.mem_cons_of_mem _ h)) h2 (fun x hx => hs x (List.mem_append_right _ hx)) (fun x hx => hp x (List.mem_append_right _ hx)))


set_option maxRecDepth 100000 in
theorem law_post {H : Type} {enc : TypeId × Value → H} {f : Func} {s : ChangeSpec} {apart fresh handsOn again : Bool} {W W' : World} {args : Array Value} {ds gs : List (DataW H)} {before : List MemPlace}
    (hW : DataW.Whole enc Try.prog f.params.toList s.vars apart W args.toList ds gs before) (hv : s.vars = []) (hs : s.fn H ds = { results := [.lit (.bool true)], args := ds }) (hres : f.resultTypes = #[4])
    (hp : ∀ t ∈ f.params.toList, Try.prog.readableRec t = true ∧ t < Try.prog.types.size) (hb : Below W.heap.size W W') :
    s.post enc Try.prog f apart fresh handsOn again W args (.bool true) W' := by
  have hlt := hW.lt
  have hW' := hW
  obtain ⟨p, q, hA, hV, rfl, hfz, hnd⟩ := hW
  rw [hv] at hV
  obtain ⟨rfl, rfl⟩ := trodVars_none hV
  have hfn : s.fn H (ds ++ []) = { results := [.lit (.bool true)], args := ds } := by rw [List.append_nil]; exact hs
  have hargs : ∀ sp : Nat → Bool, (∀ x ∈ p, sp x.block = true) → DataW.TrodAll enc Try.prog W' 0 sp true f.params.toList args.toList ds p := fun sp hsp =>
    trodAll_stays Try.laidOut _ _ _ _ hp hA (fun x hx => hb.same (hlt x (List.mem_append_left _ hx))) hsp
  have hrs : ∀ (b : Nat) (sp : Nat → Bool) (hd : Bool), DataW.TrodAll enc Try.prog W' b sp hd f.resultTypes.toList ((Value.bool true).resultList f.resultTypes.size) [.lit (.bool true)] [] := fun b sp hd => by
    rw [hres]; exact trodAll_cons_mk (shut_bool Try.underlying4 true) trodAll_mk0
  refine ⟨ds, [], p ++ [], [], p, [], hW', ?_, ?_, ?_, hb.frame _, fun _ => ?_⟩
  · rw [hfn]; exact hrs _ _ _
  · rw [hfn]; exact hargs _ (fun x hx => by simpa using hlt x (List.mem_append_left _ hx))
  · rw [hv, hfn]; exact rfl
  · refine ⟨ok_one hres rfl (okWide_bool_mk Try.underlying4 true), [.lit (.bool true)] ++ ds, [], ([] ++ p) ++ [], ⟨[] ++ p, [], ?_, ?_, rfl, ?_, ?_⟩, ?_⟩
    · exact trodAll_append (hargs _ (fun _ _ => rfl)) (hrs _ _ _)
    · rw [hv]; exact rfl
    · intro b off hx
      have hx' : MemPlace.cell b off ∈ p ++ [] := by simpa using hx
      rw [hb.frozen (p := ⟨b, off, none⟩) (hlt _ hx')]
      exact hfz b off hx'
    · intro ha
      simpa using hnd ha
    · intro x hx _
      simpa using hx

end Go.Proofs.Ythogiakfbgehnaa

namespace Go.Proofs.Ythogiakfbgehnaa
open Go.ChangeShapes Go.WideShapes Go.ChangeAt Go.RowKit

theorem str_cells : Try.prog.cellsOf 9 = 1 := by kernel_rfl
theorem strs_cells : Try.prog.cellsOf 22 = 1 := by kernel_rfl
theorem row_of {α : Type} {P : Nat → α → Prop} : ∀ n, (∀ i, i < n → ∃ s, P i s) → ∃ l : List α, l.length = n ∧ ∀ i (h : i < l.length), P i l[i] := by
  intro n
  induction n with
  | zero => intro _; exact ⟨[], rfl, fun i h => by simp at h⟩
  | succ n ih =>
    intro h
    obtain ⟨l, h1, h2⟩ := ih (fun i hi => h i (by omega))
    obtain ⟨s, hs⟩ := h n (by omega)
    refine ⟨l ++ [s], by simp [h1], fun i hi => ?_⟩
    by_cases hi2 : i < l.length
    · rw [List.getElem_append_left hi2]; exact h2 i hi2
    · have : i = l.length := by simp at hi; omega
      subst this
      rw [List.getElem_append_right (Nat.le_refl _)]
      simp only [Nat.sub_self, List.getElem_cons_zero]
      rw [h1]; exact hs

end Go.Proofs.Ythogiakfbgehnaa

namespace Go.Proofs.Ythogiakfbgehnaa
open Go.ChangeShapes Go.WideShapes Go.ChangeAt Go.RowKit

theorem bulk_pos {H : Type} (d : DataW H) : 1 ≤ Rows.uptoBulk d := by
  cases d with
  | lit l => cases l <;> simp [Rows.uptoBulk]
  | nil => simp [Rows.uptoBulk]
  | ptr d => simp [Rows.uptoBulk]
  | slice elems spare => simp [Rows.uptoBulk]
  | agg parts => simp [Rows.uptoBulk]
  | iface t d => simp [Rows.uptoBulk]
  | map es => simp [Rows.uptoBulk]
  | held h => simp [Rows.uptoBulk]
theorem bulkAll_sum {H : Type} : ∀ (l : List (DataW H)), Rows.uptoBulkAll l = (l.map Rows.uptoBulk).sum
  | [] => by simp [Rows.uptoBulkAll]
  | d :: l => by simp [Rows.uptoBulkAll, bulkAll_sum l]
theorem sum_le8 {α β : Type} (f : α → Nat) (g : β → Nat) : ∀ (l : List α) (m : List β), l.length = m.length → (∀ i (h1 : i < l.length) (h2 : i < m.length), f l[i] ≤ g m[i]) → (l.map f).sum ≤ (m.map g).sum
  | [], [], _, _ => Nat.le_refl _
  | [], _ :: _, h, _ => by simp at h
  | _ :: _, [], h, _ => by simp at h
  | a :: l, b :: m, h, k => by
    have h0 := k 0 (by simp) (by simp)
    have h1 := sum_le8 f g l m (by simpa using h) (fun i h1 h2 => by
      have := k (i + 1) (by simpa using h1) (by simpa using h2)
      simpa using this)
    simp only [List.getElem_cons_zero] at h0
    simp only [List.map_cons, List.sum_cons]
    omega
theorem sum_ones {α : Type} : ∀ (l : List α), (l.map (fun _ => 1)).sum = l.length
  | [] => rfl
  | a :: l => by rw [List.map_cons, List.sum_cons, sum_ones l, List.length_cons]; omega
/-- A row whose parts have a property that hangs on the readings. -/
theorem row_of2 {α β : Type} {P : Nat → α → Prop} {f : α → Nat} {g : β → Nat} (m : List β) (n : Nat) (hm : m.length = n) (h : ∀ i (hi : i < m.length), ∃ s, P i s ∧ f s ≤ g m[i]) : ∃ l : List α, l.length = n ∧ (∀ i (h : i < l.length), P i l[i]) ∧ (l.map f).sum ≤ (m.map g).sum := by
  obtain ⟨l, h1, h2⟩ := row_of (P := fun i s => P i s ∧ ∀ hi : i < m.length, f s ≤ g m[i]) n (fun i hi => by
    obtain ⟨s, h3, h4⟩ := h i (by omega)
    exact ⟨s, h3, fun _ => h4⟩)
  exact ⟨l, h1, fun i hi => (h2 i hi).1, sum_le8 f g l m (by omega) (fun i h3 h4 => (h2 i h3).2 h4)⟩

set_option maxRecDepth 100000 in
theorem open_strl2 {H : Type} {enc : TypeId × Value → H} {W : World} {base : Nat} {sp : Nat → Bool} {hd : Bool} (fuel : Nat) (cs : List Value) (x : DataW H × List MemPlace) (h : DataW.trod enc Try.prog W base sp hd fuel 22 cs = some x) :
    ∃ d : AltD, cs = [.slice d.a d.l.length d.c] ∧ Nms W d.a d.c d.l ∧ (∀ n ∈ d.l, n.size ≤ maxLen) ∧ d.l.length + 1 ≤ Rows.uptoBulk x.1 := by
  rcases DataW.trod_slice Try.underlying22 h with ⟨e3, _⟩ | ⟨a, len, cap, elems, rest, n', hn, e3, x3, hb, hle, hm, hel, hcell, _, _⟩
  · exact ⟨⟨[], none, 0⟩, by rw [e3]; rfl, Vs.nil W, fun n h => (by cases h), by simpa using bulk_pos x.1⟩
  · have hmax : maxLen ≤ 9223372036854775807 := by decide
    have hbk : len + 1 ≤ Rows.uptoBulk x.1 := by
      rw [x3]
      simp only [Rows.uptoBulk]
      have h1 := bulkAll_sum (elems.map (·.1))
      have h2 := sum_le8 (fun _ => 1) Rows.uptoBulk (elems.map (·.1)) (elems.map (·.1)) rfl (fun i h1 h2 => bulk_pos _)
      rw [sum_ones, List.length_map, hel] at h2
      omega
    have each : ∀ i, i < len → ∃ s : ByteArray, W.cell? ((a.add (i * 1)).add 0) = some (.string s) ∧ s.size ≤ maxLen := by
      intro i hi
      have hc := hcell i hi
      rw [List.getElem?_eq_getElem (by omega), str_cells, Option.bind_eq_some_iff] at hc
      obtain ⟨cs', hcs, ht⟩ := hc
      obtain ⟨s, e0, _, ws⟩ := DataW.trod_string Try.underlying9 ht
      subst e0
      exact ⟨s, (World.cells?_some hcs).2.2 0 (by omega), ws⟩
    by_cases h0 : len = 0
    · subst h0
      exact ⟨⟨[], some a, cap⟩, by rw [e3]; rfl, ⟨by simp, (show cap ≤ 9223372036854775807 by omega), fun e => (by cases e), fun i h => by simp at h, fun b off e i h => by simp at h⟩, fun n h => (by cases h), by simpa using bulk_pos x.1⟩
    · obtain ⟨b, off, spot⟩ := a
      have hspot : spot = none := by
        obtain ⟨s, hc, _⟩ := each 0 (by omega)
        simpa [Addr.add] using World.cell?_spot hc
      subst hspot
      have each2 : ∀ i, i < len → ∃ s : ByteArray, W.cell? ⟨b, off + i, none⟩ = some (.string s) ∧ s.size ≤ maxLen := by
        intro i hi
        obtain ⟨s, hc, hz⟩ := each i hi
        rw [add_plain, add_plain, Nat.mul_one, Nat.add_zero] at hc
        exact ⟨s, hc, hz⟩
      obtain ⟨l, hl1, hl2⟩ := row_of len each2
      refine ⟨⟨l, some ⟨b, off, none⟩, cap⟩, by rw [e3, hl1], ⟨by rw [List.length_map]; exact (show l.length ≤ cap by omega), (show cap ≤ 9223372036854775807 by omega), fun e => (by cases e), fun i _ => ⟨b, off, rfl⟩, fun b' off' e i hi => ?_⟩, fun n hn => ?_, by show l.length + 1 ≤ _; omega⟩
      · cases e
        rw [List.getElem_map]
        exact (hl2 i (by rwa [List.length_map] at hi)).1
      · obtain ⟨i, hi, rfl⟩ := List.getElem_of_mem hn
        exact (hl2 i hi).2

end Go.Proofs.Ythogiakfbgehnaa

namespace Go.Proofs.Ythogiakfbgehnaa
open Go.RowKit Go.Maps

attribute [local go_sem] Oper.semAt_some

theorem names_szR (rs : List RlD) : (namesR (grP rs)).length ≤ szR rs := by
  rw [namesR_flat]
  induction rs with
  | nil => simp
  | cons r rs ih =>
    have e : szR (r :: rs) = (r.ds.length + szA r.ds) + szR rs := by simp [szR]
    have e2 : (flat r.ds).length = szA r.ds := by simp [flat, szA, List.length_flatten, List.map_map]; rfl
    rw [List.flatMap_cons, List.length_append, e, e2]
    omega
theorem refFlaws_any2 (rs : List RlD) (a : Option Addr) (cap : Nat) (ts : List ByteArray) (ta : Option Addr) (tc : Nat) (w : World) (hl : Rls w a cap rs) (ht : Nms w ta tc ts) (hfew : rs.length + ts.length + szR rs ≤ 1000) :
    Calls Try.prog 138 #[.agg #[.slice a rs.length cap], .slice ta ts.length tc] w (FlawQ w (FLW rs ts)) := by
  have := names_szR rs
  refine (refFlaws_any rs a cap ts ta tc w hl ht (by omega) (by omega) (by omega)).mono ?_
  rintro e w' ⟨a', c', o, hO, rfl, h, hb⟩
  rw [flawsP_is hO] at h ⊢
  exact ⟨a', c', rfl, h, hb⟩

end Go.Proofs.Ythogiakfbgehnaa

namespace Go.Proofs.Ythogiakfbgehnaa
open Go.RowKit

theorem lay_nil {o : List Fl} {x : Fl} (h : layP o x = []) : False := by
  unfold layP at h
  split at h
  · next hm => rw [h] at hm; simp [memF] at hm
  · simp at h
theorem unkS_nil {ts names o : List _} {n : ByteArray} (h : unkS ts names o n = []) : o = [] ∧ (n ∈ names ∨ n ∈ ts) := by
  unfold unkS at h
  split at h
  · exact (lay_nil h).elim
  · next hc =>
    refine ⟨h, ?_⟩
    simp only [Bool.and_eq_true, Bool.not_eq_true', not_and, Bool.not_eq_false] at hc
    by_cases hn : n ∈ names
    · exact .inl hn
    · refine .inr (mem_iff.1 (hc ?_))
      rw [Bool.eq_false_iff]
      exact fun e => hn (mem_iff.1 e)
theorem unkA_nil (ts names : List ByteArray) : ∀ (l : List ByteArray) (o : List Fl), unkA ts names l o = [] → o = [] ∧ ∀ n ∈ l, n ∈ names ∨ n ∈ ts
  | [], o, h => ⟨h, fun n hn => by cases hn⟩
  | m :: l, o, h => by
    obtain ⟨h1, h2⟩ := unkA_nil ts names l (unkS ts names o m) h
    obtain ⟨h3, h4⟩ := unkS_nil h1
    refine ⟨h3, fun n hn => ?_⟩
    rcases List.mem_cons.1 hn with rfl | hn
    · exact h4
    · exact h2 n hn
theorem unkAs_nil (ts names : List ByteArray) : ∀ (al : List (List ByteArray)) (o : List Fl), unkAs ts names al o = [] → o = [] ∧ ∀ a ∈ al, ∀ n ∈ a, n ∈ names ∨ n ∈ ts
  | [], o, h => ⟨h, fun n hn => by cases hn⟩
  | m :: l, o, h => by
    obtain ⟨h1, h2⟩ := unkAs_nil ts names l (unkA ts names m o) h
    obtain ⟨h3, h4⟩ := unkA_nil ts names m o h1
    refine ⟨h3, fun n hn => ?_⟩
    rcases List.mem_cons.1 hn with rfl | hn
    · exact h4
    · exact h2 n hn
theorem unkP_nil (ts names : List ByteArray) : ∀ (rs : List Rl) (o : List Fl), unkP ts names rs o = [] → o = [] ∧ ∀ r ∈ rs, ∀ a ∈ r.2, ∀ n ∈ a, n ∈ names ∨ n ∈ ts
  | [], o, h => ⟨h, fun n hn => by cases hn⟩
  | m :: l, o, h => by
    obtain ⟨h1, h2⟩ := unkP_nil ts names l (unkAs ts names m.2 o) h
    obtain ⟨h3, h4⟩ := unkAs_nil ts names m.2 o h1
    refine ⟨h3, fun n hn => ?_⟩
    rcases List.mem_cons.1 hn with rfl | hn
    · exact h4
    · exact h2 n hn
theorem restM_nil (kd : Int) (m : ByteArray → Bool) : ∀ (l : List ByteArray) (o : List Fl), restM kd m l o = [] → o = []
  | [], o, h => h
  | n :: l, o, h => by
    have h1 := restM_nil kd m l (if (!m n) = true then layP o (kd, n) else o) h
    split at h1
    · exact (lay_nil h1).elim
    · exact h1
/-- No flaws: each name is a rule's or a token. -/
theorem flw_known {rs : List RlD} {ts : List ByteArray} (h : FLW rs ts = []) : ∀ r ∈ rs, ∀ d ∈ r.ds, ∀ n ∈ d.l, n ∈ rs.map RlD.n ∨ n ∈ ts := by
  unfold FLW at h
  have h1 := (unkP_nil _ _ _ _ (restM_nil _ _ _ _ (restM_nil _ _ _ _ h))).2
  intro r hr d hd n hn
  exact h1 r.p (by unfold grP; exact List.mem_map.2 ⟨r, hr, rfl⟩) d.l (List.mem_map.2 ⟨d, hd, rfl⟩) n hn
theorem tkN_ok (ts : List ByteArray) (t : ByteArray) : ∀ k, k ≤ ts.length → (∃ i, i < k ∧ ts[i]? = some t) → ∃ j, j < k ∧ tkN ts k t = (j : Int) ∧ ts[j]? = some t
  | 0, _, ⟨i, hi, _⟩ => absurd hi (by omega)
  | k + 1, hk, ⟨i, hi, he⟩ => by
    have hs : ts[k]? = some ts[k] := List.getElem?_eq_getElem (by omega)
    have e : tkN ts (k + 1) t = if t = ts[k] then (k : Int) else tkN ts k t := by
      show (match ts[k]? with | some s => fun t => if t = s then (k : Int) else tkN ts k t | none => tkN ts k) t = _
      rw [hs]
    by_cases ht : t = ts[k]
    · exact ⟨k, by omega, by rw [e, if_pos ht], by rw [hs, ht]⟩
    · have hik : i ≠ k := fun h => by subst h; rw [hs] at he; exact ht (Option.some.inj he).symm
      obtain ⟨j, hj, h1, h2⟩ := tkN_ok ts t k (by omega) ⟨i, by omega, he⟩
      exact ⟨j, by omega, by rw [e, if_neg ht, h1], h2⟩
theorem rlN_step (ts names : List ByteArray) (t : ByteArray) (k : Nat) (hk : k < names.length) : rlN ts names (k + 1) t = if t = names[k] then -1 - (k : Int) else rlN ts names k t := by
  have hs : names[k]? = some names[k] := List.getElem?_eq_getElem hk
  show (match names[k]? with | some s => fun t => if t = s then -1 - (k : Int) else rlN ts names k t | none => rlN ts names k) t = _
  rw [hs]
theorem rlN_ok (ts names : List ByteArray) (t : ByteArray) : ∀ k, k ≤ names.length → (∃ i, i < k ∧ names[i]? = some t) → ∃ j, j < k ∧ rlN ts names k t = -1 - (j : Int) ∧ names[j]? = some t
  | 0, _, ⟨i, hi, _⟩ => absurd hi (by omega)
  | k + 1, hk, ⟨i, hi, he⟩ => by
    have hs : names[k]? = some names[k] := List.getElem?_eq_getElem (by omega)
    have e := rlN_step ts names t k (by omega)
    by_cases ht : t = names[k]
    · exact ⟨k, by omega, by rw [e, if_pos ht], by rw [hs, ht]⟩
    · have hik : i ≠ k := fun h => by subst h; rw [hs] at he; exact ht (Option.some.inj he).symm
      obtain ⟨j, hj, h1, h2⟩ := rlN_ok ts names t k (by omega) ⟨i, by omega, he⟩
      exact ⟨j, by omega, by rw [e, if_neg ht, h1], h2⟩
theorem rlN_tk (ts names : List ByteArray) (t : ByteArray) (ht : t ∉ names) : ∀ k, k ≤ names.length → rlN ts names k t = tkN ts ts.length t
  | 0, _ => rfl
  | k + 1, hk => by
    rw [rlN_step ts names t k (by omega), if_neg (fun e => ht (by rw [e]; exact List.getElem_mem _)), rlN_tk ts names t ht k (by omega)]
theorem numE_flw {rs : List RlD} {ts : List ByteArray} (h : numE rs ts = 0) : FLW rs ts = [] := by
  unfold numE at h
  split at h
  · split at h
    · split at h
      · next h1 => exact List.length_eq_zero_iff.1 h1
      · cases h
    · next h1 => exact absurd h h1
  · next h1 => exact absurd h h1
end Go.Proofs.Ythogiakfbgehnaa

namespace Go.Proofs.Ythogiakfbgehnaa
open Go.RowKit Go.Maps

attribute [local go_sem] Oper.semAt_some

end Go.Proofs.Ythogiakfbgehnaa

namespace Go.Proofs.Ythogiakfbgehnaa
open Go.RowKit Go.Maps Go.WideMaps

theorem tokB_apart : ∀ (ts seen : List ByteArray), tokB seen ts = true → ∀ i (h : i < ts.length), ts[i] ∉ seen ++ ts.take i
  | [], _, _, i, h => by simp at h
  | t :: r, seen, hb, i, h => by
    unfold tokB at hb
    simp only [Bool.and_eq_true, Bool.not_eq_true'] at hb
    cases i with
    | zero =>
      simp only [List.getElem_cons_zero, List.take_zero, List.append_nil]
      exact fun hm => by rw [mem_iff.2 hm] at hb; exact absurd hb.1.2 (by decide)
    | succ i =>
      have := tokB_apart r (seen ++ [t]) hb.2 i (by simpa using h)
      simpa using this
theorem dblN_nil (ts names : List ByteArray) : ∀ k, k ≤ names.length → dblN ts names k = [] → ∀ i (h : i < names.length), i < k → names[i] ∉ ts ∧ names[i] ∉ names.take i
  | 0, _, _, i, _, hi => absurd hi (by omega)
  | k + 1, hk, h, i, hl, hi => by
    have hs : names[k]? = some names[k] := List.getElem?_eq_getElem (by omega)
    have e : dblN ts names (k + 1) = if (mem names[k] ts || mem names[k] (names.take k)) = true then layP (dblN ts names k) (1, names[k]) else dblN ts names k := by
      show (match names[k]? with | some n => _ | none => _) = _
      rw [hs]
    rw [e] at h
    split at h
    · exact (lay_nil h).elim
    · next hc =>
      by_cases hik : i = k
      · subst hik
        simp only [Bool.or_eq_true, not_or] at hc
        exact ⟨fun hm => hc.1 (mem_iff.2 hm), fun hm => hc.2 (mem_iff.2 hm)⟩
      · exact dblN_nil ts names k (by omega) h i hl (by omega)
/-- A grammar that may be: tokens and rules' names are all apart. -/
theorem num_apart {rs : List RlD} {ts : List ByteArray} (h : numE rs ts = 0) : ∀ i (hi : i < (ts ++ rs.map RlD.n).length), (ts ++ rs.map RlD.n)[i] ∉ (ts ++ rs.map RlD.n).take i := by
  have h0 := numE_flw h
  unfold FLW at h0
  have h1 := dblN_nil ts (rs.map RlD.n) rs.length (by simp) (unkP_nil _ _ _ _ (restM_nil _ _ _ _ (restM_nil _ _ _ _ h0))).1
  have h2 : tokB [] ts = true := by
    unfold numE at h
    split at h
    · split at h
      · next hc =>
        unfold ckT at hc
        split at hc
        · assumption
        · cases hc
      · next hc => exact absurd h hc
    · next hc => exact absurd h hc
  intro i hi
  by_cases hlt : i < ts.length
  · rw [List.getElem_append_left hlt, List.take_append_of_le_length (by omega)]
    have := tokB_apart ts [] h2 i hlt
    simpa using this
  · rw [List.getElem_append_right (by omega), List.take_append, List.take_of_length_le (by omega), List.mem_append]
    rw [List.length_append] at hi
    have := h1 (i - ts.length) (by omega) (by rw [List.length_map] at hi; omega)
    exact fun hm => hm.elim this.1 this.2
end Go.Proofs.Ythogiakfbgehnaa

namespace Go.Proofs.Ythogiakfbgehnaa
open Go.RowKit

theorem plc_out (s : ByteArray) : ∀ (l : List ByteArray) (k : Nat), s ∉ l → plcP s k l = -1
  | [], _, _ => rfl
  | t :: r, k, h => by
    unfold plcP
    rw [if_neg (fun e => h (by rw [e]; exact List.mem_cons_self ..)), plc_out s r (k + 1) (fun hm => h (List.mem_cons_of_mem _ hm))]
theorem plc_at (s : ByteArray) : ∀ (l : List ByteArray) (k j : Nat), l[j]? = some s → s ∉ l.take j → plcP s k l = ((k + j : Nat) : Int)
  | [], _, j, h, _ => by simp at h
  | t :: r, k, 0, h, _ => by
    have h : t = s := by simpa using h
    unfold plcP
    rw [if_pos h, Nat.add_zero]
  | t :: r, k, j + 1, h, hn => by
    have h : r[j]? = some s := by simpa using h
    rw [List.take_succ_cons] at hn
    unfold plcP
    rw [if_neg (fun e => hn (by rw [e]; exact List.mem_cons_self ..)), plc_at s r (k + 1) j h (fun hm => hn (List.mem_cons_of_mem _ hm))]
    congr 1
    omega
theorem num_apart2 {rs : List RlD} {ts : List ByteArray} (h : numE rs ts = 0) : (∀ i (hi : i < ts.length), ts[i] ∉ ts.take i) ∧ ∀ i (hi : i < (rs.map RlD.n).length), (rs.map RlD.n)[i] ∉ ts ∧ (rs.map RlD.n)[i] ∉ (rs.map RlD.n).take i := by
  have h0 := num_apart h
  refine ⟨fun i hi => ?_, fun i hi => ?_⟩
  · have := h0 i (by rw [List.length_append]; omega)
    rw [List.getElem_append_left hi, List.take_append_of_le_length (by omega)] at this
    exact this
  · have := h0 (ts.length + i) (by rw [List.length_append]; omega)
    rw [List.getElem_append_right (by omega), List.take_append, List.take_of_length_le (by omega), List.mem_append] at this
    simp only [show ts.length + i - ts.length = i by omega] at this
    exact ⟨fun hm => this (.inl hm), fun hm => this (.inr hm)⟩
theorem num_plc {rs : List RlD} {ts : List ByteArray} (h : numE rs ts = 0) {t : ByteArray} (ht : t ∈ rs.map RlD.n ∨ t ∈ ts) :
    rlN ts (rs.map RlD.n) rs.length t = if plcP t 0 ts < 0 then -1 - plcP t 0 (rs.map RlD.n) else plcP t 0 ts := by
  obtain ⟨a1, a2⟩ := num_apart2 h
  rw [show rs.length = (rs.map RlD.n).length from (List.length_map ..).symm]
  by_cases hn : t ∈ rs.map RlD.n
  · obtain ⟨i, hi, he⟩ := List.getElem_of_mem hn
    obtain ⟨j, hj, h1, h2⟩ := rlN_ok ts (rs.map RlD.n) t _ (Nat.le_refl _) ⟨i, hi, by rw [List.getElem?_eq_getElem hi, he]⟩
    obtain ⟨hj', h3⟩ := List.getElem?_eq_some_iff.1 h2
    obtain ⟨b1, b2⟩ := a2 j hj'
    rw [h3] at b1 b2
    rw [h1, plc_out t ts 0 b1, if_pos (by decide), plc_at t _ 0 j h2 b2, Nat.zero_add]
  · have hts := ht.resolve_left hn
    obtain ⟨i, hi, he⟩ := List.getElem_of_mem hts
    obtain ⟨j, hj, h1, h2⟩ := tkN_ok ts t ts.length (Nat.le_refl _) ⟨i, hi, by rw [List.getElem?_eq_getElem hi, he]⟩
    obtain ⟨hj', h3⟩ := List.getElem?_eq_some_iff.1 h2
    have b1 := a1 j hj'
    rw [h3] at b1
    rw [rlN_tk ts _ t hn _ (Nat.le_refl _), h1, plc_at t _ 0 j h2 b1, Nat.zero_add, if_neg (by omega)]
end Go.Proofs.Ythogiakfbgehnaa

namespace Go.Proofs.Ythogiakfbgehnaa
open Go.RowKit

theorem apart_inj {l : List ByteArray} (h : ∀ i (hi : i < l.length), l[i] ∉ l.take i) {i j : Nat} (hi : i < l.length) (hj : j < l.length) (e : l[i] = l[j]) : i = j := by
  have key : ∀ a b (ha : a < l.length) (hb : b < l.length), l[a] = l[b] → ¬ a < b := fun a b ha hb e hab => h b hb (by
    rw [← e]
    exact List.mem_iff_getElem.2 ⟨a, by rw [List.length_take]; omega, by rw [List.getElem_take]⟩)
  rcases Nat.lt_trichotomy i j with h1 | h1 | h1
  · exact absurd h1 (key i j hi hj e)
  · exact h1
  · exact absurd h1 (key j i hj hi e.symm)
theorem nm_rl {ts ns : List ByteArray} (a1 : ∀ i (hi : i < ts.length), ts[i] ∉ ts.take i) (a2 : ∀ i (hi : i < ns.length), ns[i] ∉ ts ∧ ns[i] ∉ ns.take i) {x : Int} (hx : okN ts.length ns.length x = true) :
    rlN ts ns ns.length (nmP ts ns x) = x := by
  obtain ⟨h1, h2⟩ := okN_iff.1 hx
  by_cases hneg : x < 0
  · obtain ⟨j, hj⟩ : ∃ j : Nat, (-1 - x).toNat = j := ⟨_, rfl⟩
    have hjl : j < ns.length := by omega
    have e : nmP ts ns x = ns[j] := by
      unfold nmP
      rw [if_pos hneg, hj, List.getD_eq_getElem?_getD, List.getElem?_eq_getElem hjl]
      rfl
    obtain ⟨j', hj', h3, h4⟩ := rlN_ok ts ns ns[j] ns.length (Nat.le_refl _) ⟨j, hjl, List.getElem?_eq_getElem hjl⟩
    obtain ⟨h5, h6⟩ := List.getElem?_eq_some_iff.1 h4
    have := apart_inj (fun i hi => (a2 i hi).2) h5 hjl h6
    rw [e, h3]
    omega
  · obtain ⟨j, hj⟩ : ∃ j : Nat, x.toNat = j := ⟨_, rfl⟩
    have hjl : j < ts.length := by omega
    have e : nmP ts ns x = ts[j] := by
      unfold nmP
      rw [if_neg hneg, hj, List.getD_eq_getElem?_getD, List.getElem?_eq_getElem hjl]
      rfl
    have hn : ts[j] ∉ ns := fun hm => by
      obtain ⟨i, hi, h3⟩ := List.getElem_of_mem hm
      exact (a2 i hi).1 (by rw [h3]; exact List.getElem_mem hjl)
    obtain ⟨j', hj', h3, h4⟩ := tkN_ok ts ts[j] ts.length (Nat.le_refl _) ⟨j, hjl, List.getElem?_eq_getElem hjl⟩
    obtain ⟨h5, h6⟩ := List.getElem?_eq_some_iff.1 h4
    have := apart_inj a1 h5 hjl h6
    rw [e, rlN_tk ts ns _ hn _ (Nat.le_refl _), h3]
    omega
theorem backR_fst (ts ns : List ByteArray) : ∀ (l : List ByteArray) (al : List (List (List Int))), l.length = al.length → (backR ts ns l al).map Prod.fst = l
  | [], [], _ => rfl
  | [], _ :: _, h => by simp at h
  | _ :: _, [], h => by simp at h
  | n :: l, a :: al, h => by
    have ih := backR_fst ts ns l al (by simpa using h)
    simp only [backR, List.map_cons, ih]
theorem backR_alts (ts ns : List ByteArray) (g : ByteArray → Int) : ∀ (l : List ByteArray) (al : List (List (List Int))), l.length = al.length → (∀ r ∈ al, ∀ a ∈ r, ∀ x ∈ a, g (nmP ts ns x) = x) → (backR ts ns l al).map (fun r => r.2.map (fun a => a.map g)) = al
  | [], [], _, _ => rfl
  | [], _ :: _, h, _ => by simp at h
  | _ :: _, [], h, _ => by simp at h
  | n :: l, a :: al, h, hg => by
    have ih := backR_alts ts ns g l al (by simpa using h) (fun r hr => hg r (List.mem_cons_of_mem _ hr))
    have h1 : (a.map (fun x => x.map (nmP ts ns))).map (fun x => x.map g) = a := by
      rw [List.map_map]
      refine (List.map_congr_left (fun x hx => ?_)).trans (List.map_id _)
      show (x.map (nmP ts ns)).map g = x
      rw [List.map_map]
      exact (List.map_congr_left (fun y hy => hg a (List.mem_cons_self ..) x hx y hy)).trans (List.map_id _)
    simp only [backR, List.map_cons, ih, h1]
/-- What is turned back, and may be, is numbered as it was. -/
theorem back_num {p : CfP} (hb : backE p = 0) (hn : numE (can (backG p)) p.toks = 0) : numC (can (backG p)) p.toks = p := by
  obtain ⟨ts, ns, al⟩ := p
  have hl : ns.length = al.length := by
    by_cases h : ns.length = al.length
    · exact h
    · exact absurd (show (1 : Int) = 0 from (if_neg h).symm.trans hb) (by decide)
  have ho : numsB ⟨ts, ns, al⟩ = true := by
    have hb2 : (if numsB ⟨ts, ns, al⟩ = true then (0 : Int) else 1) = 0 := (if_pos hl).symm.trans hb
    by_cases h : numsB ⟨ts, ns, al⟩ = true
    · exact h
    · exact absurd (show (1 : Int) = 0 from (if_neg h).symm.trans hb2) (by decide)
  have e1 : (can (backG ⟨ts, ns, al⟩)).map RlD.n = ns := by
    have h1 : (can (backG ⟨ts, ns, al⟩)).map RlD.n = (backG ⟨ts, ns, al⟩).map Prod.fst := by
      unfold can
      rw [List.map_map]
      rfl
    rw [h1]
    exact backR_fst ts ns ns al hl
  have e2 : (can (backG ⟨ts, ns, al⟩)).length = ns.length := by
    have := congrArg List.length e1
    rwa [List.length_map] at this
  obtain ⟨a1, a2⟩ := num_apart2 hn
  dsimp only at a1 a2
  simp only [e1] at a2
  unfold numC
  rw [e1, e2]
  congr 1
  have e3 : (can (backG ⟨ts, ns, al⟩)).map (fun r => r.ds.map (fun d => d.l.map (rlN ts ns ns.length))) = (backG ⟨ts, ns, al⟩).map (fun r => r.2.map (fun a => a.map (rlN ts ns ns.length))) := by
    unfold can
    rw [List.map_map]
    refine List.map_congr_left (fun r _ => ?_)
    show ((r.2.map (fun l => (⟨l, none, 0⟩ : AltD))).map (fun d => d.l.map (rlN ts ns ns.length))) = _
    rw [List.map_map]
    rfl
  refine e3.trans ?_
  refine backR_alts ts ns _ ns al hl (fun r hr a ha x hx => nm_rl a1 a2 ?_)
  unfold numsB at ho
  simp only [List.all_eq_true] at ho
  exact ho r hr a ha x hx
end Go.Proofs.Ythogiakfbgehnaa

