/- Texts joined: Tj Tk Tm Tl. -/
import Derived.Test.YthogiakfbgehnaaRDAw
import Derived.Test.YthogiakfbgehnaaRDAa
import Derived.OwnWalkIn
import Derived.TacticsInMore
import Derived.LoopNIn
import Derived.LoopIn
import Derived.Sort.LoopGhostIn
import Derived.Deep.RegionLaw
set_option linter.unusedVariables false
set_option linter.unusedSimpArgs false
namespace Go.Proofs.Ythogiakfbgehnaa
open Go.RowKit Go.Maps
attribute [local go_sem] Oper.semAt_some
/-- The alternatives of trees' rules, from the left. -/
def TrF.st : TrF → List Int
 | .nil => []
 | .cons h kids rest => (if 0 ≤ h.k then [] else h.i :: kids.st) ++ rest.st
/-- These trees are these symbols', each node right, whatever number a token has. -/
def goodW (d : CfD) : TrF → List Int → Prop
 | .nil, ks => ks = []
 | .cons h kids rest, ks => ∃ ks', ks = h.k :: ks' ∧ ((0 ≤ h.k ∧ kids = .nil ∧ h.i = 0) ∨ (h.k < 0 ∧ h.a = 0 ∧ ∃ al, altD d h.k h.i = some al ∧ goodW d kids al.l)) ∧ goodW d rest ks'
theorem goodW_cons {d : CfD} {h : TrH} {kids rest : TrF} {ks : List Int} (hg : goodW d (.cons h kids rest) ks) : ∃ ks', ks = h.k :: ks' ∧ ((0 ≤ h.k ∧ kids = .nil ∧ h.i = 0) ∨ (h.k < 0 ∧ h.a = 0 ∧ ∃ al, altD d h.k h.i = some al ∧ goodW d kids al.l)) ∧ goodW d rest ks' := by
 unfold goodW at hg
 exact hg
/-- What was put, of these symbols, from one state to another. -/
structure GwT (d : CfD) (st : List Int) (f : TrF) (ks : List Int) (s a n s' a' n' : Nat) : Prop where
 s1 : s ≤ s'
 s2 : s' ≤ st.length
 st : f.st = (st.drop s).take (s' - s)
 a1 : a ≤ a'
 yt : f.yt.length = a' - a
 ya : f.ya = rngI a a'
 sz : f.size + n' = n
 gd : goodW d f ks
theorem GwT.nil (d : CfD) (st : List Int) {s a n : Nat} (hs : s ≤ st.length) : GwT d st .nil [] s a n s a n := ⟨Nat.le_refl _, hs, by simp [TrF.st], Nat.le_refl _, by simp [TrF.yt], by simp [TrF.ya, rngI], by simp [TrF.size], rfl⟩
theorem gwseq_t {d : CfD} {st : List Int} {f : Int → Nat → Nat → Nat → GwR Tre} (hf : ∀ k s a n t s' a' n', s ≤ st.length → f k s a n = .ok t s' a' n' → GwT d st (t.con .nil) [k] s a n s' a' n') : ∀ (ks : List Int) (s a n : Nat) {l s' a' n'}, s ≤ st.length → gwSeq f ks s a n = .ok l s' a' n' → GwT d st l ks s a n s' a' n'
 | [], s, a, n, l, s', a', n', hs, h => by
  unfold gwSeq at h
  injection h with h0 h1 h2 h3
  subst h0 h1 h2 h3
  exact GwT.nil d st hs
 | k :: ks, s, a, n, l, s', a', n', hs, h => by
  rw [gwseq_cons] at h
  cases e : f k s a n with
  | bad c x => rw [e] at h; cases h
  | ok x s2 a2 n2 =>
   rw [e] at h
   have h1 := hf k s a n x s2 a2 n2 hs e
   change (gwSeq f ks s2 a2 n2).bind _ = _ at h
   cases e2 : gwSeq f ks s2 a2 n2 with
   | bad c x => rw [e2] at h; cases h
   | ok l2 s3 a3 n3 =>
    rw [e2] at h
    have h2 := gwseq_t hf ks s2 a2 n2 h1.s2 e2
    change GwR.ok _ _ _ _ = _ at h
    injection h with h0 h3 h4 h5
    subst h0 h3 h4 h5
    have e1 : (x.con .nil).st ++ l2.st = (x.con l2).st := by simp only [Tre.con, TrF.st, List.append_nil]
    have e3 : (x.con .nil).yt ++ l2.yt = (x.con l2).yt := by simp only [Tre.con, TrF.yt, List.append_nil]
    have e4 : (x.con .nil).ya ++ l2.ya = (x.con l2).ya := by simp only [Tre.con, TrF.ya, List.append_nil]
    have g1 := h1.s1
    have g2 := h2.s1
    have g3 := h1.a1
    have g4 := h2.a1
    refine ⟨Nat.le_trans g1 g2, h2.s2, ?_, Nat.le_trans g3 g4, ?_, ?_, ?_, ?_⟩
    ·rw [← e1, h1.st, h2.st, cut_app g1 g2]
    ·rw [← e3, List.length_append, h1.yt, h2.yt]; omega
    ·rw [← e4, h1.ya, h2.ya, rngI_app g3 g4]
    ·have h6 := h1.sz
     have h7 := h2.sz
     simp only [Tre.con, TrF.size] at h6 ⊢
     omega
    ·obtain ⟨ks', h8, h9, _⟩ := goodW_cons h1.gd
     injection h8 with h8 _
     unfold Tre.con goodW
     exact ⟨ks, by rw [h8], h9, h2.gd⟩
theorem gwput_t (d : CfD) (st : List Int) : ∀ (m : Nat) (k : Int) (s a n : Nat) {t s' a' n'}, s ≤ st.length → gwPut d st m k s a n = .ok t s' a' n' → GwT d st (t.con .nil) [k] s a n s' a' n'
 | 0, k, s, a, n, t, s', a', n', hs, h => by unfold gwPut at h; cases h
 | m + 1, k, s, a, n, t, s', a', n', hs, h => by
  unfold gwPut at h
  by_cases hn : n = 0
  ·rw [if_pos hn] at h; cases h
  ·rw [if_neg hn] at h
   by_cases hk : 0 ≤ k
   ·rw [if_pos hk] at h
    injection h with h0 h1 h2 h3
    subst h0 h1 h2 h3
    refine ⟨Nat.le_refl _, hs, ?_, by omega, ?_, ?_, ?_, ?_⟩
    ·simp [Tre.con, TrF.st, hk]
    ·simp [Tre.con, TrF.yt, hk]
    ·simp [Tre.con, TrF.ya, hk, rngI]
    ·simp only [Tre.con, TrF.size]; omega
    ·unfold Tre.con goodW
     exact ⟨[], rfl, .inl ⟨hk, rfl, rfl⟩, rfl⟩
   ·rw [if_neg hk] at h
    cases e : st[s]? with
    | none => rw [e] at h; cases h
    | some i =>
     rw [e] at h
     dsimp only at h
     have hlt := (List.getElem?_eq_some_iff.1 e).1
     cases e2 : altD d k i with
     | none => rw [e2] at h; cases h
     | some al =>
      rw [e2] at h
      dsimp only at h
      cases e3 : gwSeq (gwPut d st m) al.l (s + 1) a (n - 1) with
      | bad c x => rw [e3] at h; cases h
      | ok l s2 a2 n2 =>
       rw [e3] at h
       have h2 := gwseq_t (fun k s a n t s' a' n' hs h => gwput_t d st m k s a n hs h) al.l (s + 1) a (n - 1) (by omega) e3
       change GwR.ok _ _ _ _ = _ at h
       injection h with h0 h3 h4 h5
       subst h0 h3 h4 h5
       have g1 := h2.s1
       refine ⟨by omega, h2.s2, ?_, h2.a1, ?_, ?_, ?_, ?_⟩
       ·simp only [Tre.con, TrF.st, List.append_nil]
        rw [if_neg hk, h2.st, List.drop_eq_getElem_cons hlt, (List.getElem?_eq_some_iff.1 e).2, show s2 - s = (s2 - (s + 1)) + 1 by omega, List.take_succ_cons]
       ·simp only [Tre.con, TrF.yt, List.append_nil]
        rw [if_neg hk]
        exact h2.yt
       ·simp only [Tre.con, TrF.ya, List.append_nil]
        rw [if_neg hk]
        exact h2.ya
       ·have h6 := h2.sz
        simp only [Tre.con, TrF.size]
        omega
       ·unfold Tre.con goodW
        exact ⟨[], rfl, .inr ⟨show k < 0 by omega, rfl, al, e2, h2.gd⟩, rfl⟩
theorem ya_len : ∀ (f : TrF), f.ya.length = f.yt.length
 | .nil => rfl
 | .cons h kids rest => by
  simp only [TrF.ya, TrF.yt, List.length_append]
  rw [ya_len rest]
  by_cases hk : 0 ≤ h.k
  ·rw [if_pos hk, if_pos hk]; rfl
  ·rw [if_neg hk, if_neg hk, ya_len kids]
/-- What Grow makes. -/
theorem grow_t {d : CfD} {st : List Int} {t : Tre} {s a n : Nat} (h : gwGrow d st = .ok t s a n) : GwT d st (t.con .nil) [-1] 0 0 20000 s a n ∧ s = st.length := by
 unfold gwGrow at h
 cases e : gwPut d st 20000 (-1) 0 0 20000 with
 | bad c x => rw [e] at h; cases h
 | ok t2 s2 a2 n2 =>
  rw [e] at h
  change (if s2 < st.length then GwR.bad s2 110 else .ok t2 s2 a2 n2) = _ at h
  by_cases hs : s2 < st.length
  ·rw [if_pos hs] at h; cases h
  ·rw [if_neg hs] at h
   injection h with h0 h1 h2 h3
   subst h0 h1 h2 h3
   have h4 := gwput_t d st 20000 (-1) 0 0 20000 (Nat.zero_le _) e
   have := h4.s2
   exact ⟨h4, by omega⟩
end Go.Proofs.Ythogiakfbgehnaa
namespace Go.Proofs.Ythogiakfbgehnaa
open Go.RowKit Go.Shelf
attribute [local go_sem] Oper.semAt_some
/-- A node of the walk over a tree: how deep it stands, what it holds, how many it has. -/
structure NdT where
 d : Nat
 h : TrH
 kids : TrF
/-- What comes of a node: where p is set, nothing of a token. -/
def told (p : Bool) (h : TrH) (kids : TrF) : TrF := if p && decide (0 ≤ h.k) then .nil else kids
theorem told_size (p : Bool) (h : TrH) (kids : TrF) : (told p h kids).size ≤ kids.size := by
 unfold told
 split
 ·exact Nat.zero_le _
 ·exact Nat.le_refl _
/-- Trees and all that is in them, each ahead of its own list. -/
def TrF.pre (p : Bool) (d : Nat) : TrF → List NdT
 | .nil => []
 | .cons h kids rest => ⟨d, h, kids⟩ :: ((if p && decide (0 ≤ h.k) then [] else kids.pre p (d + 1)) ++ rest.pre p d)
theorem TrF.pre_cons (p : Bool) (d : Nat) (h : TrH) (kids rest : TrF) : (TrF.cons h kids rest).pre p d = ⟨d, h, kids⟩ :: ((told p h kids).pre p (d + 1) ++ rest.pre p d) := by
 unfold told
 show _ :: ((if p && decide (0 ≤ h.k) then [] else kids.pre p (d + 1)) ++ rest.pre p d) = _
 split <;> rfl
theorem TrF.pre_nil (p : Bool) (d : Nat) : (TrF.nil).pre p d = [] := rfl
theorem TrF.pre_le (p : Bool) (f : TrF) : ∀ d, (f.pre p d).length ≤ f.size := by
 induction f with
 | nil => intro d; exact Nat.le_refl _
 | cons h kids rest ihk ihr =>
  intro d
  show (_ :: ((if p && decide (0 ≤ h.k) then [] else kids.pre p (d + 1)) ++ rest.pre p d)).length ≤ kids.size + rest.size + 1
  have h1 := ihk (d + 1)
  have h2 := ihr d
  rw [List.length_cons, List.length_append]
  split
  ·simp only [List.length_nil]; omega
  ·omega
/-- What is still to come, where these lists are open, the innermost one first. -/
def remT (p : Bool) : List TrF → List NdT
 | [] => []
 | f :: fs => f.pre p (fs.length + 1) ++ remT p fs
/-- Rounds that are still to come. -/
def stepsT : List TrF → Nat
 | [] => 0
 | f :: fs => 2 * f.size + 1 + stepsT fs
/-- A node with the value of its list. -/
structure NxT where
 nd : NdT
 a : Option Addr
 cap : Nat
def encsT (x : NxT) : Array Value := #[.int .i64 (x.nd.d : Int), treV x.nd.h x.a x.nd.kids.len x.cap]
def GoodT (w0 : World) (all : List NdT) (pre : List NxT) : Prop := (∃ r, pre.map (·.nd) ++ r = all) ∧ ∀ x ∈ pre, TrS w0 (fun _ => True) x.a x.cap x.nd.kids
def FullT (all : List NdT) (pre : List NxT) : Prop := pre.map (·.nd) = all
/-- The types of the iterator's own rows. -/
def itTT (t : TypeId) : Bool := t == 49 || t == 51 || t == 135
/-- The function that tells an item's list, as a value. -/
abbrev inVT (fn : Nat) : Value := .func (.func fn) #[] #[]
/-- What the value of an open list leads to: items of the caller's, as they lay in w0; or the item itself, in the block R. -/
def EntT (w0 wr : World) (R : Nat) (v : Value) (f : TrF) : Prop :=
 (∃ a cap, v = .slice a f.len cap ∧ TrS w0 (fun _ => True) a cap f) ∨
 (∃ h kids ka kcap, f = .cons h kids .nil ∧ v = .slice (some ⟨R, 0, none⟩) 1 1 ∧ wr.heap[R]? = some (.cells #[.int .i64 h.k, .int .i64 h.i, .int .i64 h.a, .slice ka kids.len kcap] 51 (0, 0)) ∧ TrS w0 (fun _ => True) ka kcap kids)
def StkT (w0 wr : World) (R : Nat) : List TrF → List Value → Prop
 | [], [] => True
 | f :: fs, v :: vs => EntT w0 wr R v f ∧ StkT w0 wr R fs vs
 | _, _ => False
theorem EntT.turn {w0 wr wr' : World} {R : Nat} {v : Value} {f : TrF} (h : EntT w0 wr R v f) (hk : ∀ (cs : Array Value), wr.heap[R]? = some (.cells cs 51 (0, 0)) → wr'.heap[R]? = some (.cells cs 51 (0, 0))) : EntT w0 wr' R v f := by
 rcases h with h | ⟨h, kids, ka, kcap, e1, e2, e3, e4⟩
 ·exact .inl h
 ·exact .inr ⟨h, kids, ka, kcap, e1, e2, hk _ e3, e4⟩
theorem StkT.turn {w0 wr wr' : World} {R : Nat} (hk : ∀ (cs : Array Value), wr.heap[R]? = some (.cells cs 51 (0, 0)) → wr'.heap[R]? = some (.cells cs 51 (0, 0))) : ∀ (fs : List TrF) (vs : List Value), StkT w0 wr R fs vs → StkT w0 wr' R fs vs := by
 intro fs
 induction fs with
 | nil => intro vs h; cases vs with
  | nil => trivial
  | cons v vs => exact h.elim
 | cons f fs ih => intro vs h; cases vs with
  | nil => exact h.elim
  | cons v vs => exact ⟨h.1.turn hk, ih vs h.2⟩
theorem StkT.length {w0 wr : World} {R : Nat} : ∀ (fs : List TrF) (vs : List Value), StkT w0 wr R fs vs → vs.length = fs.length := by
 intro fs
 induction fs with
 | nil => intro vs h; cases vs with
  | nil => rfl
  | cons v vs => exact h.elim
 | cons f fs ih => intro vs h; cases vs with
  | nil => exact h.elim
  | cons v vs => simp [ih vs h.2]
/-- The first item of an open list, read in a world and in each one behind a round. -/
theorem EntT.first {n₀ : Nat} {w0 wr : World} {R : Nat} {v : Value} {h : TrH} {kids rest : TrF} (hw : Below w0.heap.size w0 wr) (hn₀ : n₀ = w0.heap.size) (he : EntT w0 wr R v (.cons h kids rest)) :
 ∃ b off cap ka kcap, v = .slice (some ⟨b, off, none⟩) (rest.len + 1) cap ∧ rest.len + 1 ≤ cap ∧ cap ≤ 9223372036854775807 ∧
  (∀ W', (W' = wr ∨ Spares n₀ itTT wr W') → W'.cell? ⟨b, off, none⟩ = some (.int .i64 h.k) ∧ W'.cell? ⟨b, off + 1, none⟩ = some (.int .i64 h.i) ∧ W'.cell? ⟨b, off + 2, none⟩ = some (.int .i64 h.a) ∧ W'.cell? ⟨b, off + 3, none⟩ = some (.slice ka kids.len kcap)) ∧
  (∀ (gg : Nat) (cur : Array Value), wr.heap[gg]? = some (.cells cur 49 (0, 0)) → w0.heap.size ≤ gg → b ≠ gg) ∧
  TrS w0 (fun _ => True) ka kcap kids ∧ TrS w0 (fun _ => True) (if cap = 1 then some ⟨b, off, none⟩ else some ⟨b, off + 4, none⟩) (cap - 1) rest := by
 subst hn₀
 rcases he with ⟨a, cap, rfl, hi⟩ | ⟨h', kids', ka, kcap, e1, rfl, e3, e4⟩
 ·obtain ⟨b, off, rfl, _, h1, h2, h3, ⟨ka, kcap, h4, h5, h6, h7, h8⟩, h9⟩ := hi.at_ (by simp [TrF.len])
  have hle := hi.le
  simp only [TrF.len] at hle
  refine ⟨b, off, cap, ka, kcap, rfl, hle, hi.max, ?_, fun gg cur _ hgg => by have := World.block_lt_of_cell? w0 _ h1; simp only at this; omega, ⟨h5, h6, h7, h8⟩, ⟨by omega, by have := hi.max; omega, fun e => (by split at e <;> cases e), fun hr => ?_⟩⟩
  ·have hc : ∀ W', (W' = wr ∨ Spares w0.heap.size itTT wr W') → ∀ o v, w0.cell? ⟨b, o, none⟩ = some v → W'.cell? ⟨b, o, none⟩ = some v := by
    intro W' hW o v hv
    have hlt := World.block_lt_of_cell? w0 _ hv
    rcases hW with rfl | hW
    ·exact (hw.cell (p := ⟨b, o, none⟩) hlt).trans hv
    ·exact ((hw.trans hW.below).cell (p := ⟨b, o, none⟩) hlt).trans hv
   exact fun W' hW => ⟨hc W' hW _ _ h1, hc W' hW _ _ h2, hc W' hW _ _ h3, hc W' hW _ _ h4⟩
  ·rw [if_neg (by omega)]
   exact ⟨b, off + 4, rfl, trivial, h9⟩
 ·cases e1
  refine ⟨R, 0, 1, ka, kcap, rfl, by simp [TrF.len], by omega, ?_, fun gg cur hgg _ e => by subst e; rw [e3] at hgg; simp at hgg, e4, ⟨by simp [TrF.len], by omega, fun e => (by split at e <;> cases e), fun hr => (by simp [TrF.len] at hr)⟩⟩
  intro W' hW
  have : W'.heap[R]? = some (.cells #[.int .i64 h.k, .int .i64 h.i, .int .i64 h.a, .slice ka kids.len kcap] 51 (0, 0)) := by
   rcases hW with rfl | hW
   ·exact e3
   ·exact hW.same R _ _ _ e3 (by decide)
  simp [World.cell?, this]
theorem info_itemsT : (Try.prog.info? 49).map (fun i => (i.zero, i.size, i.bytes)) = some (some (.slice none 0 0), 1, 24) := by kernel_rfl
/-- A list is put onto the row of open lists. -/
theorem run_pushT (w : World) (ty : TypeId) {base n cap : Nat} {a : Option Addr} {row : List Value} (v : Value) (hv : v.oneCell' = true) (hown : w.ownsRow base 49 1 (.slice a n cap) n row) (hn : n + 1 ≤ 1099511627780) (hbase : base ≤ w.heap.size) :
 ∃ a' cap' w', (Builtin.append_ #[189, 189] ty #[.slice a n cap, .slice (some ⟨w.heap.size, 0, none⟩) 1 1]).run Try.prog (w.alloc (.cells #[v] 49)) = .ok (.slice a' (n + 1) cap') w' ∧
  w'.ownsRow base 49 1 (.slice a' (n + 1) cap') (n + 1) (row ++ [v]) ∧ w.grownBy w' (Value.slice a n cap).ownBlock := by
 obtain ⟨i0, hi, hz0, hz1, hz2⟩ := info_parts info_itemsT
 obtain ⟨v', w', hrun, ho, hg, _⟩ := run_append_own (P := Try.prog) (w.alloc (.cells #[v] 49)) base 189 ty 49 i0 (.slice none 0 0) 1 24 Try.underlying189 hi hz0 hz1 hz2 rfl (by decide) _ n _ (hown.alloc _) ⟨w.heap.size, 0, none⟩ 1 1 [v] rfl (new_cell w v _) (by simpa using hv) (by unfold maxLen; omega) (by omega) (by simp; omega)
 obtain ⟨a', cap', rfl⟩ := slice_of_own ho
 exact ⟨a', cap', w', hrun, ho, grownBy_trans (World.grownBy_alloc w _ _) hg (fun i e => .inl e)⟩
/-- What holds at the head of each round. -/
def AllInvT (fn : Nat) (p : Bool) (Bi : Nat) (w0 W : World) (J : List NxT → World → Prop) (all : List NdT) (k : Nat) (o : Value) (wr : World) : Prop :=
 ∃ (fs : List TrF) (vs : List Value) (a : Option Addr) (cap : Nat) (pre : List NxT), k = stepsT fs ∧ o = .slice a fs.length cap ∧ wr.ownsRow W.heap.size 49 1 (.slice a fs.length cap) fs.length vs.reverse ∧
  StkT w0 wr W.heap.size fs vs ∧ J pre wr ∧ pre.map (·.nd) ++ remT p fs = all ∧ fs.length ≤ pre.length + 1 ∧ Below w0.heap.size w0 wr ∧ wr.heap[Bi]? = some (.cells #[inVT fn] 135 (0, 0)) ∧ (∀ x ∈ pre, TrS w0 (fun _ => True) x.a x.cap x.nd.kids)
/-- The invariant behind a round that has gone on. -/
theorem allInv_nextT {fn : Nat} {p : Bool} {TA : TrF} {Bi : Nat} {w0 W wr W3 w1 : World} {J : List NxT → World → Prop} {all : List NdT} {pre : List NxT} {h' : TrH} {kids' rest : TrF} {fs : List TrF} {vs : List Value} {g cap2 : Nat} {cur : Array Value} {ka' A2 : Option Addr} {kcap' : Nat} {x : NxT} {v' : Value} {row : List Value}
 (hvl : vs.length = fs.length) (hall : pre.map (·.nd) ++ remT p (.cons h' kids' rest :: fs) = all) (hst : StkT w0 wr W.heap.size fs vs) (hbl : Below w0.heap.size w0 wr) (hs3 : Spares w0.heap.size itTT wr W3)
 (hgc3 : W3.heap[g]? = some (.cells cur 49 (0, 0))) (hgb : W.heap.size ≤ g) (hz : w0.heap.size ≤ W.heap.size) (hj3 : J (pre ++ [x]) W3) (hJ : Bears W.heap.size itTT J) (hg : W3.grownBy w1 (some g))
 (hta : TA = told p h' kids') (hkk : TrS w0 (fun _ => True) ka' kcap' TA) (hrr : TrS w0 (fun _ => True) A2 (cap2 - 1) rest) (hx : x.nd = ⟨fs.length + 1, h', kids'⟩)
 (hrow : row = (vs.reverse ++ [.slice A2 rest.len (cap2 - 1)]) ++ [.slice ka' TA.len kcap'])
 {a : Option Addr} {cap : Nat} (hv : v' = .slice a (fs.length + 1 + 1) cap) (hown : w1.ownsRow W.heap.size 49 1 v' (fs.length + 1 + 1) row) (hlen : fs.length + 1 ≤ pre.length + 1)
 (hBi : wr.heap[Bi]? = some (.cells #[inVT fn] 135 (0, 0))) (hsp : ∀ y ∈ pre ++ [x], TrS w0 (fun _ => True) y.a y.cap y.nd.kids) :
 AllInvT fn p Bi w0 W J all (stepsT (TA :: rest :: fs)) v' w1 := by
 subst hv
 have hroot : ∀ (cs : Array Value), wr.heap[W.heap.size]? = some (.cells cs 51 (0, 0)) → w1.heap[W.heap.size]? = some (.cells cs 51 (0, 0)) := by
  intro cs hcs
  have h3 := hs3.same _ cs _ _ hcs (by decide)
  refine (hg.block _ (Array.getElem?_eq_some_iff.1 h3).1 (fun e => ?_)).trans h3
  cases e
  rw [hgc3] at h3
  simp at h3
 refine ⟨TA :: rest :: fs, .slice ka' TA.len kcap' :: .slice A2 rest.len (cap2 - 1) :: vs, a, cap, pre ++ [x], rfl, rfl, ?_, ⟨.inl ⟨_, _, rfl, hkk⟩, .inl ⟨_, _, rfl, hrr⟩, StkT.turn hroot _ _ hst⟩, ?_, ?_, ?_, ?_, ?_, hsp⟩
 ·rw [hrow] at hown; simpa using hown
 ·exact hJ _ W3 w1 (some g) hj3 hg (fun r e => by cases e; exact ⟨hgb, _, hgc3, .inr ⟨_, _, _, rfl, by decide⟩⟩)
 ·rw [← hall]; simp [remT, TrF.pre_cons, hx, hta]
 ·simp; omega
 ·exact hbl.trans (hs3.below.trans ((Below.refl _ W3).grown hg (Nat.le_trans hbl.size hs3.below.size) (fun k e => by cases e; omega)))
 ·have h3 := hs3.same _ _ _ _ hBi (by decide)
  refine (hg.block _ (Array.getElem?_eq_some_iff.1 h3).1 (fun e => ?_)).trans h3
  cases e
  rw [hgc3] at h3
  simp at h3
end Go.Proofs.Ythogiakfbgehnaa
namespace Go.Proofs.Ythogiakfbgehnaa
open Go.RowKit Go.Shelf
attribute [local go_sem] Oper.semAt_some
set_option maxRecDepth 100000 in
set_option maxHeartbeats 4000000 in
theorem toldD_any (w0 : World) (h : TrH) (kids : TrF) (a : Option Addr) (cap : Nat) (hk : TrS w0 (fun _ => True) a cap kids) (w : World) :
 Calls Try.prog 131 #[treV h a kids.len cap] w fun e W => ∃ A C, e = .returned (.slice A (told true h kids).len C) ∧ TrS w0 (fun _ => True) A C (told true h kids) ∧ Below w.heap.size w W := by
 obtain ⟨hk0, hn, hs⟩ := h
 have hlm : kids.len ≤ cap ∧ cap ≤ 9223372036854775807 := ⟨hk.le, hk.max⟩
 have hB := Blk.new w 51 #[.int .i64 hk0, .int .i64 hn, .int .i64 hs, .slice a kids.len cap]
 have hb : Below w.heap.size w (w.alloc (.cells #[.int .i64 hk0, .int .i64 hn, .int .i64 hs, .slice a kids.len cap] 51)) := (Below.refl _ _).alloc (Nat.le_refl _) _
 have HIT := Lib.hid (fun V => isTok_any ⟨hk0, hn, hs⟩ a kids.len cap V)
 have x0 := hB.cell 0
 have x1 := hB.cell 1
 have x2 := hB.cell 2
 have x3 := hB.cell 3
 have xl := hB.lt
 simp only [List.getElem?_cons_zero, List.getElem?_cons_succ] at x0 x1 x2 x3
 have HB := Lib.hid hB
 have Hb := Lib.hid hb
 have HK := Lib.hid hk
 by_cases h0 : 0 ≤ hk0
 ·have e0 : decide (0 ≤ hk0) = true := decide_eq_true h0
  have et : told true ⟨hk0, hn, hs⟩ kids = .nil := by unfold told; rw [if_pos (by simpa using h0)]
  rw [et]
  have HQ : Hid (∀ W, Below w.heap.size w W → ∃ A C, Ending.returned (.slice none 0 0) = .returned (.slice A (TrF.nil).len C) ∧ TrS w0 (fun _ => True) A C .nil ∧ Below w.heap.size w W) := Lib.hid (fun W h => ⟨none, 0, rfl, TrS.nil _ _, h⟩)
  clear hB hb hk
  go_enter Try.func131, Try.ntmps131
  go_wp2_with (fail)
  refine (HIT.out _).mono ?_
  rintro e9 w9 ⟨rfl, hb9⟩
  have HF := Lib.hid (HQ.out w9 (Hb.out.trans (hb9.mono Hb.out.size)))
  show _
  dsimp only
  rw [e0]
  clear x0 x1 x2 x3 xl hb9
  go_wp2_with (fail)
  first | exact HF.out | exact bodyPost_ret (v := .slice none 0 0) (by simp [results, Try.results131, go_sem]; try first | rfl | assumption | omega) rfl HF.out
 ·have e0 : decide (0 ≤ hk0) = false := decide_eq_false h0
  have et : told true ⟨hk0, hn, hs⟩ kids = kids := by unfold told; rw [if_neg (by simpa using h0)]
  rw [et]
  obtain ⟨n, hn9⟩ : ∃ q, Hid (kids.len = q) := ⟨_, Lib.hid rfl⟩
  rw [hn9.out] at hlm HB x3 Hb HIT ⊢
  have HQ : Hid (∀ W, Below w.heap.size w W → ∃ A C, Ending.returned (.slice a n cap) = .returned (.slice A n C) ∧ TrS w0 (fun _ => True) A C kids ∧ Below w.heap.size w W) := Lib.hid (fun W h => ⟨a, cap, rfl, HK.out, h⟩)
  clear hB hb hk
  go_enter Try.func131, Try.ntmps131
  go_wp2_with (fail)
  refine (HIT.out _).mono ?_
  rintro e9 w9 ⟨rfl, hb9⟩
  have HB9 := HB.out.below hb9 HB.out.lt
  have y3 := HB9.cell 3
  have yl := HB9.lt
  simp only [List.getElem?_cons_zero, List.getElem?_cons_succ] at y3
  have HF := Lib.hid (HQ.out w9 (Hb.out.trans (hb9.mono Hb.out.size)))
  dsimp only
  rw [e0]
  clear x0 x1 x2 x3 xl hb9
  go_wp2_with (fail)
  first | exact HF.out | exact bodyPost_ret (v := .slice a n cap) (by simp [results, Try.results131, go_sem]; try first | rfl | assumption | omega) rfl HF.out
set_option maxRecDepth 100000 in
set_option maxHeartbeats 1000000 in
theorem all1_inD (w0 W : World) (Bs Bi : Nat) (h : TrH) (kids : TrF) (ka : Option Addr) (kcap : Nat) (hk : TrS w0 (fun _ => True) ka kcap kids) (hW0 : Below w0.heap.size w0 W)
 (hN : kids.size ≤ 1099511627776)
 (c0 : W.cell? ⟨Bs, 0, none⟩ = some (.int .i64 h.k)) (c1 : W.cell? ⟨Bs, 1, none⟩ = some (.int .i64 h.i)) (c2 : W.cell? ⟨Bs, 2, none⟩ = some (.int .i64 h.a)) (c3 : W.cell? ⟨Bs, 3, none⟩ = some (.slice ka kids.len kcap))
 (hi0 : W.heap[Bi]? = some (.cells #[inVT 131] 135 (0, 0)))
 (l : Nat) (J Jx : List NxT → World → Prop) (hJ : Bears W.heap.size itTT J) (hJx : Bears W.heap.size itTT Jx)
 (hY : ∀ pre x W1, J pre W1 → GoodT w0 (TrF.pre true 1 (.cons h kids .nil)) (pre ++ [x]) → YieldAt Fence.wide 0 Try.prog l (encsT x) W1 fun e W' =>
  (e = .returned (.bool true) ∧ J (pre ++ [x]) W' ∧ Spares w0.heap.size itTT W1 W') ∨ (e = .returned (.bool false) ∧ Jx (pre ++ [x]) W'))
 (h0 : J [] W) :
 CallsIn Fence.wide 0 Try.prog 143 #[.func (.yield l) #[] #[], .pointer (some ⟨Bs, 0, none⟩), .pointer (some ⟨Bi, 0, none⟩)] W fun e W' => (∃ v, e = .returned v) ∧ ((∃ xs, FullT (TrF.pre true 1 (.cons h kids .nil)) xs ∧ J xs W') ∨ (∃ pre, GoodT w0 (TrF.pre true 1 (.cons h kids .nil)) pre ∧ Jx pre W')) := by
 refine callsIn_of_wp Try.func143 rfl trivial ?_ rfl
 simp only [Try.ntmps143, List.size_toArray, List.length_cons, List.length_nil, Nat.reduceAdd, Nat.reduceSub, Array.replicate_succ, Array.replicate_zero, List.push_toArray, List.append_toArray, List.nil_append, List.cons_append]
 gi_wp2_with (fail)
 have hz := hW0.size
 have hBiW : Bi < W.heap.size := (Array.getElem?_eq_some_iff.1 hi0).1
 gi_loopg [4] (stepsT [.cons h kids .nil]) (fun k o wr => AllInvT 131 true Bi w0 W J (TrF.pre true 1 (.cons h kids .nil)) k o wr)
 case atStart =>
  have hR := Below.heap_alloc (W.alloc (.cells #[.int .i64 h.k, .int .i64 h.i, .int .i64 h.a, .slice ka kids.len kcap] 51)) (.cells #[.slice (some ⟨W.heap.size, 0, none⟩) 1 1] 49) W.heap.size (by simp)
  refine ⟨[.cons h kids .nil], [.slice (some ⟨W.heap.size, 0, none⟩) 1 1], _, 1, [], rfl, rfl, ?_, ⟨.inr ⟨h, kids, ka, kcap, rfl, rfl, ?_, hk⟩, trivial⟩, hJ.alloc _ (hJ.alloc _ h0), by simp [remT], by simp, ?_, ?_, fun x hx => absurd hx (by simp)⟩
  ·have := World.ownsRow_lit (base := W.heap.size) (e := 49) (size := 1) (W.alloc (.cells #[.int .i64 h.k, .int .i64 h.i, .int .i64 h.a, .slice ka kids.len kcap] 51)) #[.slice (some ⟨W.heap.size, 0, none⟩) 1 1] 1 (by simp) (by unfold maxLen; omega) rfl
   simpa using this
  ·rw [hR]; exact World.alloc_heap_new W _
  ·exact hW0.trans ((((Below.refl _ W).alloc (Nat.le_refl _) _).alloc (by simp) _).mono hz)
  ·exact (Below.heap_alloc _ _ _ (by simp; omega)).trans ((Below.heap_alloc _ _ _ hBiW).trans hi0)
 case round =>
  obtain ⟨fs, vs, a, cap, pre, rfl, rfl, hown, hst, hj, hall, hlen, hbl, hBi, hsp⟩ := hrel
  have HSp := Lib.hid hsp
  clear hsp
  cases fs with
  | nil =>
   gi_wp2
   go_end0
   exact ⟨⟨_, rfl⟩, .inl ⟨pre, by simpa [remT, FullT] using hall, hj⟩⟩
  | cons f fs =>
   cases vs with
   | nil => exact hst.elim
   | cons v vs =>
   simp only [List.length_cons] at hown hlen ⊢
   have hvl := hst.2.length
   obtain ⟨g, cap', e⟩ := ownsRow_succ hown
   simp only [Value.slice.injEq, true_and] at e
   obtain ⟨rfl, rfl⟩ := e
   have hrow := hown
   rw [List.reverse_cons] at hrow
   have hcell : wr.cell? ⟨g, fs.length, none⟩ = some v := by
    rw [hrow.cellAt fs.length (by omega), List.getElem?_append_right (by rw [List.length_reverse, hvl]; exact Nat.le_refl _)]
    simp [hvl]
   have hfro := hrow.frozenAt fs.length
   have hcapm : fs.length + 1 ≤ cap ∧ cap ≤ 9223372036854775807 := by
    rcases hrow.2 with ⟨e, _⟩ | ⟨g', cap', cur, e, _, _, h1, h2, _⟩
    ·cases e
    ·simp only [Value.slice.injEq, true_and] at e
     obtain ⟨-, rfl⟩ := e
     exact ⟨h1, by unfold maxLen at h2; omega⟩
   obtain ⟨hc1, hc2⟩ := hcapm
   cases f with
   | nil =>
    obtain ⟨a2, cap2, rfl⟩ : ∃ a2 cap2, v = .slice a2 0 cap2 := by
     rcases hst.1 with ⟨a2, cap2, e, _⟩ | ⟨_, _, _, _, e, _⟩
     ·exact ⟨a2, cap2, e⟩
     ·cases e
    have hpop := ownsRow_pop (n := fs.length) (by simp [hvl]) hrow
    have Hlen := Lib.hid hlen
    have Hvl := Lib.hid hvl
    have HBi := Lib.hid hBi
    clear hrow hown hvl hBi
    gi_wp2
    gi_roundg (stepsT fs)
    case measure => simp [stepsT]
    case rel => exact ⟨fs, vs, some ⟨g, 0, none⟩, cap, pre, rfl, by simp, hpop, hst.2, hj, by simpa [remT, TrF.pre_cons, TrF.pre_nil] using hall, by have := Hlen.out; omega, hbl, HBi.out, HSp.out⟩
   | cons h' kids' rest =>
    obtain ⟨b, off, cap2, ka', kcap', rfl, hle2, hmx2, hcells, hbg, hkk, hrr⟩ := EntT.first hbl rfl hst.1
    obtain ⟨q0, q1, q2, q3⟩ := hcells wr (.inl rfl)
    have HSp2 : Hid (∀ y ∈ pre ++ [(⟨⟨fs.length + 1, h', kids'⟩, ka', kcap'⟩ : NxT)], TrS w0 (fun _ => True) y.a y.cap y.nd.kids) := Lib.hid (by
     intro y hy
     rcases List.mem_append.1 hy with hy | hy
     ·exact HSp.out y hy
     ·rw [List.mem_singleton.1 hy]; exact hkk)
    have hgood : GoodT w0 (TrF.pre true 1 (.cons h kids .nil)) (pre ++ [⟨⟨fs.length + 1, h', kids'⟩, ka', kcap'⟩]) :=
     ⟨⟨(told true h' kids').pre true (fs.length + 1 + 1) ++ rest.pre true (fs.length + 1) ++ remT true fs, by rw [← hall]; simp [remT, TrF.pre_cons, TrF.pre_nil]⟩, HSp2.out⟩
    have hdeep : pre.length + 1 ≤ kids.size + 1 := by
     obtain ⟨⟨r, hr⟩, -⟩ := hgood
     have h8 := congrArg List.length hr
     have h9 := TrF.pre_le true (TrF.cons h kids .nil) 1
     rw [← h8, List.length_append, List.length_map, List.length_append] at h9
     simp only [List.length_singleton, TrF.size] at h9
     omega
    obtain ⟨fn, tmps, assign, body, hy, hR⟩ := hY pre _ wr hj hgood
    dsimp only [encsT, treV] at hy
    rw [show ((fs.length + 1 : Nat) : Int) = (fs.length : Int) + 1 from rfl] at hy
    have Hlen := Lib.hid hlen
    have Hvl := Lib.hid hvl
    have HBi := Lib.hid hBi
    have hg0 : W.heap.size ≤ g ∧ ∃ cur, wr.heap[g]? = some (.cells cur 49 (0, 0)) := by
     rcases hrow.2 with ⟨e, _⟩ | ⟨g', cap', cur, e, hb, h1, _⟩
     ·cases e
     ·cases e; exact ⟨hb, cur, h1⟩
    obtain ⟨hgb, cur, hgc⟩ := hg0
    have hbg' : ¬ b = g := hbg g cur hgc (by omega)
    have hgb' : ¬ g = b := fun e => hbg' e.symm
    have hvl' := hvl
    clear hvl hlen hbg hBi
    have hcase : ∃ A2, TrS w0 (fun _ => True) A2 (cap2 - 1) rest ∧ ((cap2 = 1 ∧ A2 = some ⟨b, off, none⟩) ∨ (¬ cap2 = 1 ∧ A2 = some ⟨b, off + 4, none⟩)) := by
     by_cases hc : cap2 = 1
     ·rw [if_pos hc] at hrr; exact ⟨_, hrr, .inl ⟨hc, rfl⟩⟩
     ·rw [if_neg hc] at hrr; exact ⟨_, hrr, .inr ⟨hc, rfl⟩⟩
    clear hrr
    gi_wp2_with (fail)
    refine ⟨rfl, hR.mono ?_⟩
    rintro e W3 (⟨rfl, hj3, hs3⟩ | ⟨rfl, hjx⟩)
    ·have hown3 : W3.ownsRow W.heap.size 49 1 (.slice (some ⟨g, 0, none⟩) (fs.length + 1) cap) (fs.length + 1) (vs.reverse ++ [.slice (some ⟨b, off, none⟩) (rest.len + 1) cap2]) := by
      rcases hrow.2 with ⟨e, _⟩ | ⟨g', cap', cur, e, hb, h1, r⟩
      ·cases e
      ·cases e; exact ⟨hrow.1, .inr ⟨g, cap, cur, rfl, hb, hs3.same g cur _ _ h1 (by decide), r⟩⟩
     have hgc3 := hs3.same g cur _ _ hgc (by decide)
     have hBi3 := hs3.same Bi _ _ _ HBi.out (by decide)
     have hBig : ¬ Bi = g := by
      rintro rfl
      rw [hgc3] at hBi3
      simp at hBi3
     have hcell3 : W3.cell? ⟨g, fs.length, none⟩ = some (.slice (some ⟨b, off, none⟩) (rest.len + 1) cap2) := by
      have := Hvl.out
      rw [hown3.cellAt fs.length (by omega), List.getElem?_append_right (by rw [List.length_reverse, this]; exact Nat.le_refl _)]
      simp [this]
     have hfro3 := hown3.frozenAt fs.length
     obtain ⟨p0, p1, p2, p3⟩ := hcells W3 (.inr hs3)
     have hst2 := hst.2
     clear hown hrow hcell hfro q0 q1 q2 q3 hgc hy hR hcells hj hst h0
     have hN' := hN
     have hkeep : ∀ A2, ∃ w5, W3.setCell ⟨g, fs.length, none⟩ (.slice A2 rest.len (cap2 - 1)) = w5 ∧ w5.ownsRow W.heap.size 49 1 (.slice (some ⟨g, 0, none⟩) (fs.length + 1) cap) (fs.length + 1) (vs.reverse ++ [.slice A2 rest.len (cap2 - 1)]) ∧ W3.grownBy w5 (some g) ∧
      w5.cell? ⟨b, off, none⟩ = some (.int .i64 h'.k) ∧ w5.cell? ⟨b, off + 1, none⟩ = some (.int .i64 h'.i) ∧ w5.cell? ⟨b, off + 2, none⟩ = some (.int .i64 h'.a) ∧ w5.cell? ⟨b, off + 3, none⟩ = some (.slice ka' kids'.len kcap') ∧ w5.cell? ⟨Bi, 0, none⟩ = some (inVT 131) := by
      intro A2
      have hs := hown3.stored fs.length (.slice A2 rest.len (cap2 - 1))
      refine ⟨_, rfl, ?_, hs.2, ?_⟩
      ·have := hs.1
       have hv := Hvl.out
       rw [List.set_append_right _ _ (by simp [hv])] at this
       simpa [hv] using this
      ·have hc : ∀ (B o : Nat) (u : Value), ¬ B = g → W3.cell? ⟨B, o, none⟩ = some u → (W3.setCell ⟨g, fs.length, none⟩ (.slice A2 rest.len (cap2 - 1))).cell? ⟨B, o, none⟩ = some u :=
        fun B o u hB hu => by
         have := hs.2.block B (World.block_lt_of_cell? W3 _ hu) (by simpa using hB)
         simp only [World.cell?] at hu ⊢
         rw [this]; exact hu
       exact ⟨hc _ _ _ hbg' p0, hc _ _ _ hbg' p1, hc _ _ _ hbg' p2, hc _ _ _ hbg' p3, hc _ _ _ hBig (by simp [World.cell?, hBi3])⟩
     rcases hcase with ⟨A2, hrr, hA⟩
     obtain ⟨w5, e5, hown5, hg5, x0, x1, x2, x3, xi⟩ := hkeep A2
     clear hkeep
     have hsz5 : W.heap.size ≤ w5.heap.size := by
      have h1 := (Array.getElem?_eq_some_iff.1 hgc3).1
      have h2 := hg5.size
      omega
     have hrun5 := fun (A : Option Addr) (c4 : Nat) (w4 : World) (h4 : Below w5.drew.heap.size w5.drew w4) =>
      run_pushT w4 189 (.slice A (told true h' kids').len c4) (by simp [Value.oneCell']) (World.ownsRow.kept hown5.drew (below_grownBy h4 none) (by simp [Value.ownBlock])) (by have := Hlen.out; omega) (by have := h4.size; simp only [World.size_drew] at this; omega)
     have HE := Lib.hid e5
     clear e5
     rcases hA with ⟨rfl, rfl⟩ | ⟨hcap, rfl⟩
     ·obtain rfl : rest = .nil := by cases rest with
       | nil => rfl
       | cons _ _ _ => simp [TrF.len] at hle2
      simp only [TrF.len, Nat.zero_add] at hown3 hcell3 hle2 HE hown5 hrun5 ⊢
      gi_wp2_with (fail)
      rw [HE.out]
      refine wpIn_wide.2 ?_
      go_region_law (first | (refine step_append_run rfl (.tmp 40) (.tmp 46) 189 189 rfl _ _ _ _ rfl rfl Hr5.out ?_) | (go_simp; go_at_call 131; (with_reducible refine (toldD_any w0 h' kids' ka' kcap' hkk w5.drew).mono ?_); rintro e w4 ⟨A9, c9, rfl, hT9, hw4⟩; have HT9 := Lib.hid hT9; obtain ⟨a6, c6, w6, hrun6, hown6, hg6⟩ := hrun5 A9 c9 w4 hw4; have hg46 : w5.grownBy w6 (some g) := grownBy_trans (grownBy_trans (grownBy_drew w5 _) (below_grownBy hw4 (some g)) (fun i e => .inl e)) hg6 (fun i e => .inl e); have Hr5 := Lib.hid hrun6; have Hown6 := Lib.hid hown6; clear hrun6 hw4 hown6 hg6 hT9))
      all_goals
       have hg13 : W3.grownBy w6 (some g) := grownBy_trans hg5 hg46 (fun i e => .inl e)
       refine ‹∀ (a' : Act) (w' : World), Handed _ _ a' w' → _› _ _ ?_
       gi_roundg (stepsT (told true h' kids' :: .nil :: fs))
       case measure => have := told_size true h' kids'; simp [stepsT, TrF.size]; omega
       case rel => exact allInv_nextT (cap2 := 1) hvl' hall hst2 hbl hs3 hgc3 hgb hz hj3 hJ hg13 rfl HT9.out hrr rfl (by simp [TrF.len, hvl']) rfl Hown6.out Hlen.out HBi.out HSp2.out
     ·gi_wp2_with (fail)
      rw [HE.out]
      refine wpIn_wide.2 ?_
      go_region_law (first | (refine step_append_run rfl (.tmp 40) (.tmp 46) 189 189 rfl _ _ _ _ rfl rfl Hr5.out ?_) | (go_simp; go_at_call 131; (with_reducible refine (toldD_any w0 h' kids' ka' kcap' hkk w5.drew).mono ?_); rintro e w4 ⟨A9, c9, rfl, hT9, hw4⟩; have HT9 := Lib.hid hT9; obtain ⟨a6, c6, w6, hrun6, hown6, hg6⟩ := hrun5 A9 c9 w4 hw4; have hg46 : w5.grownBy w6 (some g) := grownBy_trans (grownBy_trans (grownBy_drew w5 _) (below_grownBy hw4 (some g)) (fun i e => .inl e)) hg6 (fun i e => .inl e); have Hr5 := Lib.hid hrun6; have Hown6 := Lib.hid hown6; clear hrun6 hw4 hown6 hg6 hT9))
      all_goals
       have hg13 : W3.grownBy w6 (some g) := grownBy_trans hg5 hg46 (fun i e => .inl e)
       refine ‹∀ (a' : Act) (w' : World), Handed _ _ a' w' → _› _ _ ?_
       gi_roundg (stepsT (told true h' kids' :: rest :: fs))
       case measure => have := told_size true h' kids'; simp [stepsT, TrF.size]; omega
       case rel => exact allInv_nextT (cap2 := cap2) hvl' hall hst2 hbl hs3 hgc3 hgb hz hj3 hJ hg13 rfl HT9.out hrr rfl (by simp [hvl']) rfl Hown6.out Hlen.out HBi.out HSp2.out
    ·gi_wp2
     refine bodyPost_ret (results_none rfl _ _ _) rfl ?_
     exact ⟨⟨_, rfl⟩, .inr ⟨_, hgood, hjx⟩⟩
end Go.Proofs.Ythogiakfbgehnaa
namespace Go.Proofs.Ythogiakfbgehnaa
open Go.RowKit Go.Shelf
attribute [local go_sem] Oper.semAt_some
theorem toldK_any (w0 : World) (h : TrH) (kids : TrF) (a : Option Addr) (cap : Nat) (hk : TrS w0 (fun _ => True) a cap kids) (w : World) :
 Calls Try.prog 105 #[treV h a kids.len cap] w fun e W => ∃ A C, e = .returned (.slice A (told false h kids).len C) ∧ TrS w0 (fun _ => True) A C (told false h kids) ∧ Below w.heap.size w W := by
 refine (kids_any h a kids.len cap w).mono ?_
 rintro e W ⟨rfl, rfl⟩
 exact ⟨a, cap, rfl, hk, (Below.refl _ _).alloc (Nat.le_refl _) _⟩
set_option maxRecDepth 100000 in
set_option maxHeartbeats 1000000 in
theorem all1_inK (w0 W : World) (Bs Bi : Nat) (h : TrH) (kids : TrF) (ka : Option Addr) (kcap : Nat) (hk : TrS w0 (fun _ => True) ka kcap kids) (hW0 : Below w0.heap.size w0 W)
 (hN : kids.size ≤ 1099511627776)
 (c0 : W.cell? ⟨Bs, 0, none⟩ = some (.int .i64 h.k)) (c1 : W.cell? ⟨Bs, 1, none⟩ = some (.int .i64 h.i)) (c2 : W.cell? ⟨Bs, 2, none⟩ = some (.int .i64 h.a)) (c3 : W.cell? ⟨Bs, 3, none⟩ = some (.slice ka kids.len kcap))
 (hi0 : W.heap[Bi]? = some (.cells #[inVT 105] 135 (0, 0)))
 (l : Nat) (J Jx : List NxT → World → Prop) (hJ : Bears W.heap.size itTT J) (hJx : Bears W.heap.size itTT Jx)
 (hY : ∀ pre x W1, J pre W1 → GoodT w0 (TrF.pre false 1 (.cons h kids .nil)) (pre ++ [x]) → YieldAt Fence.wide 0 Try.prog l (encsT x) W1 fun e W' =>
  (e = .returned (.bool true) ∧ J (pre ++ [x]) W' ∧ Spares w0.heap.size itTT W1 W') ∨ (e = .returned (.bool false) ∧ Jx (pre ++ [x]) W'))
 (h0 : J [] W) :
 CallsIn Fence.wide 0 Try.prog 143 #[.func (.yield l) #[] #[], .pointer (some ⟨Bs, 0, none⟩), .pointer (some ⟨Bi, 0, none⟩)] W fun e W' => (∃ v, e = .returned v) ∧ ((∃ xs, FullT (TrF.pre false 1 (.cons h kids .nil)) xs ∧ J xs W') ∨ (∃ pre, GoodT w0 (TrF.pre false 1 (.cons h kids .nil)) pre ∧ Jx pre W')) := by
 refine callsIn_of_wp Try.func143 rfl trivial ?_ rfl
 simp only [Try.ntmps143, List.size_toArray, List.length_cons, List.length_nil, Nat.reduceAdd, Nat.reduceSub, Array.replicate_succ, Array.replicate_zero, List.push_toArray, List.append_toArray, List.nil_append, List.cons_append]
 gi_wp2_with (fail)
 have hz := hW0.size
 have hBiW : Bi < W.heap.size := (Array.getElem?_eq_some_iff.1 hi0).1
 gi_loopg [4] (stepsT [.cons h kids .nil]) (fun k o wr => AllInvT 105 false Bi w0 W J (TrF.pre false 1 (.cons h kids .nil)) k o wr)
 case atStart =>
  have hR := Below.heap_alloc (W.alloc (.cells #[.int .i64 h.k, .int .i64 h.i, .int .i64 h.a, .slice ka kids.len kcap] 51)) (.cells #[.slice (some ⟨W.heap.size, 0, none⟩) 1 1] 49) W.heap.size (by simp)
  refine ⟨[.cons h kids .nil], [.slice (some ⟨W.heap.size, 0, none⟩) 1 1], _, 1, [], rfl, rfl, ?_, ⟨.inr ⟨h, kids, ka, kcap, rfl, rfl, ?_, hk⟩, trivial⟩, hJ.alloc _ (hJ.alloc _ h0), by simp [remT], by simp, ?_, ?_, fun x hx => absurd hx (by simp)⟩
  ·have := World.ownsRow_lit (base := W.heap.size) (e := 49) (size := 1) (W.alloc (.cells #[.int .i64 h.k, .int .i64 h.i, .int .i64 h.a, .slice ka kids.len kcap] 51)) #[.slice (some ⟨W.heap.size, 0, none⟩) 1 1] 1 (by simp) (by unfold maxLen; omega) rfl
   simpa using this
  ·rw [hR]; exact World.alloc_heap_new W _
  ·exact hW0.trans ((((Below.refl _ W).alloc (Nat.le_refl _) _).alloc (by simp) _).mono hz)
  ·exact (Below.heap_alloc _ _ _ (by simp; omega)).trans ((Below.heap_alloc _ _ _ hBiW).trans hi0)
 case round =>
  obtain ⟨fs, vs, a, cap, pre, rfl, rfl, hown, hst, hj, hall, hlen, hbl, hBi, hsp⟩ := hrel
  have HSp := Lib.hid hsp
  clear hsp
  cases fs with
  | nil =>
   gi_wp2
   go_end0
   exact ⟨⟨_, rfl⟩, .inl ⟨pre, by simpa [remT, FullT] using hall, hj⟩⟩
  | cons f fs =>
   cases vs with
   | nil => exact hst.elim
   | cons v vs =>
   simp only [List.length_cons] at hown hlen ⊢
   have hvl := hst.2.length
   obtain ⟨g, cap', e⟩ := ownsRow_succ hown
   simp only [Value.slice.injEq, true_and] at e
   obtain ⟨rfl, rfl⟩ := e
   have hrow := hown
   rw [List.reverse_cons] at hrow
   have hcell : wr.cell? ⟨g, fs.length, none⟩ = some v := by
    rw [hrow.cellAt fs.length (by omega), List.getElem?_append_right (by rw [List.length_reverse, hvl]; exact Nat.le_refl _)]
    simp [hvl]
   have hfro := hrow.frozenAt fs.length
   have hcapm : fs.length + 1 ≤ cap ∧ cap ≤ 9223372036854775807 := by
    rcases hrow.2 with ⟨e, _⟩ | ⟨g', cap', cur, e, _, _, h1, h2, _⟩
    ·cases e
    ·simp only [Value.slice.injEq, true_and] at e
     obtain ⟨-, rfl⟩ := e
     exact ⟨h1, by unfold maxLen at h2; omega⟩
   obtain ⟨hc1, hc2⟩ := hcapm
   cases f with
   | nil =>
    obtain ⟨a2, cap2, rfl⟩ : ∃ a2 cap2, v = .slice a2 0 cap2 := by
     rcases hst.1 with ⟨a2, cap2, e, _⟩ | ⟨_, _, _, _, e, _⟩
     ·exact ⟨a2, cap2, e⟩
     ·cases e
    have hpop := ownsRow_pop (n := fs.length) (by simp [hvl]) hrow
    have Hlen := Lib.hid hlen
    have Hvl := Lib.hid hvl
    have HBi := Lib.hid hBi
    clear hrow hown hvl hBi
    gi_wp2
    gi_roundg (stepsT fs)
    case measure => simp [stepsT]
    case rel => exact ⟨fs, vs, some ⟨g, 0, none⟩, cap, pre, rfl, by simp, hpop, hst.2, hj, by simpa [remT, TrF.pre_cons, TrF.pre_nil] using hall, by have := Hlen.out; omega, hbl, HBi.out, HSp.out⟩
   | cons h' kids' rest =>
    obtain ⟨b, off, cap2, ka', kcap', rfl, hle2, hmx2, hcells, hbg, hkk, hrr⟩ := EntT.first hbl rfl hst.1
    obtain ⟨q0, q1, q2, q3⟩ := hcells wr (.inl rfl)
    have HSp2 : Hid (∀ y ∈ pre ++ [(⟨⟨fs.length + 1, h', kids'⟩, ka', kcap'⟩ : NxT)], TrS w0 (fun _ => True) y.a y.cap y.nd.kids) := Lib.hid (by
     intro y hy
     rcases List.mem_append.1 hy with hy | hy
     ·exact HSp.out y hy
     ·rw [List.mem_singleton.1 hy]; exact hkk)
    have hgood : GoodT w0 (TrF.pre false 1 (.cons h kids .nil)) (pre ++ [⟨⟨fs.length + 1, h', kids'⟩, ka', kcap'⟩]) :=
     ⟨⟨(told false h' kids').pre false (fs.length + 1 + 1) ++ rest.pre false (fs.length + 1) ++ remT false fs, by rw [← hall]; simp [remT, TrF.pre_cons, TrF.pre_nil]⟩, HSp2.out⟩
    have hdeep : pre.length + 1 ≤ kids.size + 1 := by
     obtain ⟨⟨r, hr⟩, -⟩ := hgood
     have h8 := congrArg List.length hr
     have h9 := TrF.pre_le false (TrF.cons h kids .nil) 1
     rw [← h8, List.length_append, List.length_map, List.length_append] at h9
     simp only [List.length_singleton, TrF.size] at h9
     omega
    obtain ⟨fn, tmps, assign, body, hy, hR⟩ := hY pre _ wr hj hgood
    dsimp only [encsT, treV] at hy
    rw [show ((fs.length + 1 : Nat) : Int) = (fs.length : Int) + 1 from rfl] at hy
    have Hlen := Lib.hid hlen
    have Hvl := Lib.hid hvl
    have HBi := Lib.hid hBi
    have hg0 : W.heap.size ≤ g ∧ ∃ cur, wr.heap[g]? = some (.cells cur 49 (0, 0)) := by
     rcases hrow.2 with ⟨e, _⟩ | ⟨g', cap', cur, e, hb, h1, _⟩
     ·cases e
     ·cases e; exact ⟨hb, cur, h1⟩
    obtain ⟨hgb, cur, hgc⟩ := hg0
    have hbg' : ¬ b = g := hbg g cur hgc (by omega)
    have hgb' : ¬ g = b := fun e => hbg' e.symm
    have hvl' := hvl
    clear hvl hlen hbg hBi
    have hcase : ∃ A2, TrS w0 (fun _ => True) A2 (cap2 - 1) rest ∧ ((cap2 = 1 ∧ A2 = some ⟨b, off, none⟩) ∨ (¬ cap2 = 1 ∧ A2 = some ⟨b, off + 4, none⟩)) := by
     by_cases hc : cap2 = 1
     ·rw [if_pos hc] at hrr; exact ⟨_, hrr, .inl ⟨hc, rfl⟩⟩
     ·rw [if_neg hc] at hrr; exact ⟨_, hrr, .inr ⟨hc, rfl⟩⟩
    clear hrr
    gi_wp2_with (fail)
    refine ⟨rfl, hR.mono ?_⟩
    rintro e W3 (⟨rfl, hj3, hs3⟩ | ⟨rfl, hjx⟩)
    ·have hown3 : W3.ownsRow W.heap.size 49 1 (.slice (some ⟨g, 0, none⟩) (fs.length + 1) cap) (fs.length + 1) (vs.reverse ++ [.slice (some ⟨b, off, none⟩) (rest.len + 1) cap2]) := by
      rcases hrow.2 with ⟨e, _⟩ | ⟨g', cap', cur, e, hb, h1, r⟩
      ·cases e
      ·cases e; exact ⟨hrow.1, .inr ⟨g, cap, cur, rfl, hb, hs3.same g cur _ _ h1 (by decide), r⟩⟩
     have hgc3 := hs3.same g cur _ _ hgc (by decide)
     have hBi3 := hs3.same Bi _ _ _ HBi.out (by decide)
     have hBig : ¬ Bi = g := by
      rintro rfl
      rw [hgc3] at hBi3
      simp at hBi3
     have hcell3 : W3.cell? ⟨g, fs.length, none⟩ = some (.slice (some ⟨b, off, none⟩) (rest.len + 1) cap2) := by
      have := Hvl.out
      rw [hown3.cellAt fs.length (by omega), List.getElem?_append_right (by rw [List.length_reverse, this]; exact Nat.le_refl _)]
      simp [this]
     have hfro3 := hown3.frozenAt fs.length
     obtain ⟨p0, p1, p2, p3⟩ := hcells W3 (.inr hs3)
     have hst2 := hst.2
     clear hown hrow hcell hfro q0 q1 q2 q3 hgc hy hR hcells hj hst h0
     have hN' := hN
     have hkeep : ∀ A2, ∃ w5, W3.setCell ⟨g, fs.length, none⟩ (.slice A2 rest.len (cap2 - 1)) = w5 ∧ w5.ownsRow W.heap.size 49 1 (.slice (some ⟨g, 0, none⟩) (fs.length + 1) cap) (fs.length + 1) (vs.reverse ++ [.slice A2 rest.len (cap2 - 1)]) ∧ W3.grownBy w5 (some g) ∧
      w5.cell? ⟨b, off, none⟩ = some (.int .i64 h'.k) ∧ w5.cell? ⟨b, off + 1, none⟩ = some (.int .i64 h'.i) ∧ w5.cell? ⟨b, off + 2, none⟩ = some (.int .i64 h'.a) ∧ w5.cell? ⟨b, off + 3, none⟩ = some (.slice ka' kids'.len kcap') ∧ w5.cell? ⟨Bi, 0, none⟩ = some (inVT 105) := by
      intro A2
      have hs := hown3.stored fs.length (.slice A2 rest.len (cap2 - 1))
      refine ⟨_, rfl, ?_, hs.2, ?_⟩
      ·have := hs.1
       have hv := Hvl.out
       rw [List.set_append_right _ _ (by simp [hv])] at this
       simpa [hv] using this
      ·have hc : ∀ (B o : Nat) (u : Value), ¬ B = g → W3.cell? ⟨B, o, none⟩ = some u → (W3.setCell ⟨g, fs.length, none⟩ (.slice A2 rest.len (cap2 - 1))).cell? ⟨B, o, none⟩ = some u :=
        fun B o u hB hu => by
         have := hs.2.block B (World.block_lt_of_cell? W3 _ hu) (by simpa using hB)
         simp only [World.cell?] at hu ⊢
         rw [this]; exact hu
       exact ⟨hc _ _ _ hbg' p0, hc _ _ _ hbg' p1, hc _ _ _ hbg' p2, hc _ _ _ hbg' p3, hc _ _ _ hBig (by simp [World.cell?, hBi3])⟩
     rcases hcase with ⟨A2, hrr, hA⟩
     obtain ⟨w5, e5, hown5, hg5, x0, x1, x2, x3, xi⟩ := hkeep A2
     clear hkeep
     have hsz5 : W.heap.size ≤ w5.heap.size := by
      have h1 := (Array.getElem?_eq_some_iff.1 hgc3).1
      have h2 := hg5.size
      omega
     have hrun5 := fun (A : Option Addr) (c4 : Nat) (w4 : World) (h4 : Below w5.drew.heap.size w5.drew w4) =>
      run_pushT w4 189 (.slice A (told false h' kids').len c4) (by simp [Value.oneCell']) (World.ownsRow.kept hown5.drew (below_grownBy h4 none) (by simp [Value.ownBlock])) (by have := Hlen.out; omega) (by have := h4.size; simp only [World.size_drew] at this; omega)
     have HE := Lib.hid e5
     clear e5
     rcases hA with ⟨rfl, rfl⟩ | ⟨hcap, rfl⟩
     ·obtain rfl : rest = .nil := by cases rest with
       | nil => rfl
       | cons _ _ _ => simp [TrF.len] at hle2
      simp only [TrF.len, Nat.zero_add] at hown3 hcell3 hle2 HE hown5 hrun5 ⊢
      gi_wp2_with (fail)
      rw [HE.out]
      refine wpIn_wide.2 ?_
      go_region_law (first | (refine step_append_run rfl (.tmp 40) (.tmp 46) 189 189 rfl _ _ _ _ rfl rfl Hr5.out ?_) | (go_simp; go_at_call 105; (with_reducible refine (toldK_any w0 h' kids' ka' kcap' hkk w5.drew).mono ?_); rintro e w4 ⟨A9, c9, rfl, hT9, hw4⟩; have HT9 := Lib.hid hT9; obtain ⟨a6, c6, w6, hrun6, hown6, hg6⟩ := hrun5 A9 c9 w4 hw4; have hg46 : w5.grownBy w6 (some g) := grownBy_trans (grownBy_trans (grownBy_drew w5 _) (below_grownBy hw4 (some g)) (fun i e => .inl e)) hg6 (fun i e => .inl e); have Hr5 := Lib.hid hrun6; have Hown6 := Lib.hid hown6; clear hrun6 hw4 hown6 hg6 hT9))
      all_goals
       have hg13 : W3.grownBy w6 (some g) := grownBy_trans hg5 hg46 (fun i e => .inl e)
       refine ‹∀ (a' : Act) (w' : World), Handed _ _ a' w' → _› _ _ ?_
       gi_roundg (stepsT (told false h' kids' :: .nil :: fs))
       case measure => have := told_size false h' kids'; simp [stepsT, TrF.size]; omega
       case rel => exact allInv_nextT (cap2 := 1) hvl' hall hst2 hbl hs3 hgc3 hgb hz hj3 hJ hg13 rfl HT9.out hrr rfl (by simp [TrF.len, hvl']) rfl Hown6.out Hlen.out HBi.out HSp2.out
     ·gi_wp2_with (fail)
      rw [HE.out]
      refine wpIn_wide.2 ?_
      go_region_law (first | (refine step_append_run rfl (.tmp 40) (.tmp 46) 189 189 rfl _ _ _ _ rfl rfl Hr5.out ?_) | (go_simp; go_at_call 105; (with_reducible refine (toldK_any w0 h' kids' ka' kcap' hkk w5.drew).mono ?_); rintro e w4 ⟨A9, c9, rfl, hT9, hw4⟩; have HT9 := Lib.hid hT9; obtain ⟨a6, c6, w6, hrun6, hown6, hg6⟩ := hrun5 A9 c9 w4 hw4; have hg46 : w5.grownBy w6 (some g) := grownBy_trans (grownBy_trans (grownBy_drew w5 _) (below_grownBy hw4 (some g)) (fun i e => .inl e)) hg6 (fun i e => .inl e); have Hr5 := Lib.hid hrun6; have Hown6 := Lib.hid hown6; clear hrun6 hw4 hown6 hg6 hT9))
      all_goals
       have hg13 : W3.grownBy w6 (some g) := grownBy_trans hg5 hg46 (fun i e => .inl e)
       refine ‹∀ (a' : Act) (w' : World), Handed _ _ a' w' → _› _ _ ?_
       gi_roundg (stepsT (told false h' kids' :: rest :: fs))
       case measure => have := told_size false h' kids'; simp [stepsT, TrF.size]; omega
       case rel => exact allInv_nextT (cap2 := cap2) hvl' hall hst2 hbl hs3 hgc3 hgb hz hj3 hJ hg13 rfl HT9.out hrr rfl (by simp [hvl']) rfl Hown6.out Hlen.out HBi.out HSp2.out
    ·gi_wp2
     refine bodyPost_ret (results_none rfl _ _ _) rfl ?_
     exact ⟨⟨_, rfl⟩, .inr ⟨_, hgood, hjx⟩⟩
end Go.Proofs.Ythogiakfbgehnaa
