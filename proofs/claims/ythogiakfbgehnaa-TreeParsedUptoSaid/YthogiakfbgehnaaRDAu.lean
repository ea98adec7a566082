/- Texts joined: Tg. -/
import Derived.Test.YthogiakfbgehnaaRDAt
set_option linter.unusedVariables false
set_option linter.unusedSimpArgs false
namespace Go.Proofs.Ythogiakfbgehnaa
open Go.RowKit Go.Maps
attribute [local go_sem] Oper.semAt_some
/-- Refused behind so many steps, or something, how many steps and tokens are behind it, and how many nodes may still be put. -/
inductive GwR (α : Type) where
 | bad (s : Nat) (e : Int)
 | ok (x : α) (s a left : Nat)
def GwR.bind {α β : Type} (r : GwR α) (f : α → Nat → Nat → Nat → GwR β) : GwR β :=
 match r with
 | .bad s e => .bad s e
 | .ok x s a n => f x s a n
theorem gwbind_assoc {α β γ : Type} (r : GwR α) (f : α → Nat → Nat → Nat → GwR β) (g : β → Nat → Nat → Nat → GwR γ) : (r.bind f).bind g = r.bind (fun x s a n => (f x s a n).bind g) := by cases r <;> rfl
def gwSeq (f : Int → Nat → Nat → Nat → GwR Tre) : List Int → Nat → Nat → Nat → GwR TrF
 | [], s, a, n => .ok .nil s a n
 | k :: ks, s, a, n => (f k s a n).bind fun x s a n => (gwSeq f ks s a n).bind fun l s a n => .ok (x.con l) s a n
/-- Putting a symbol by steps, where so many nodes may still be put. -/
def gwPut (d : CfD) (st : List Int) : Nat → Int → Nat → Nat → Nat → GwR Tre
 | 0, _, s, _, _ => .bad s 2
 | m + 1, k, s, a, n =>
  if n = 0 then .bad s 2
  else if 0 ≤ k then .ok ⟨k, 0, (a : Int), .nil⟩ s (a + 1) (n - 1)
  else match st[s]? with
   | none => .bad s 110
   | some i => match altD d k i with
    | none => .bad s 110
    | some al => (gwSeq (gwPut d st m) al.l (s + 1) a (n - 1)).bind fun l s a n => .ok ⟨k, i, 0, l⟩ s a n
theorem gwseq_cons {f : Int → Nat → Nat → Nat → GwR Tre} {k : Int} {ks : List Int} {s a n : Nat} : gwSeq f (k :: ks) s a n = (f k s a n).bind fun x s a n => (gwSeq f ks s a n).bind fun l s a n => .ok (x.con l) s a n := rfl
/-- What an answer keeps: places go on, nodes grow fewer; tokens and nodes together grow no more. -/
structure GwK (T s a n s' a' n' : Nat) : Prop where
 s1 : s ≤ s'
 s2 : s' ≤ T
 a1 : a ≤ a'
 n1 : n' ≤ n
 an : a' + n' ≤ a + n
theorem gwseq_k {T : Nat} {f : Int → Nat → Nat → Nat → GwR Tre} (hf : ∀ k s a n x s' a' n', s ≤ T → f k s a n = .ok x s' a' n' → GwK T s a n s' a' n' ∧ n' + 1 ≤ n) : ∀ (ks : List Int) (s a n : Nat) {l s' a' n'}, s ≤ T → gwSeq f ks s a n = .ok l s' a' n' → GwK T s a n s' a' n'
 | [], s, a, n, l, s', a', n', hs, h => by
  unfold gwSeq at h
  injection h with _ h1 h2 h3
  subst h1 h2 h3
  exact ⟨Nat.le_refl _, hs, Nat.le_refl _, Nat.le_refl _, Nat.le_refl _⟩
 | k :: ks, s, a, n, l, s', a', n', hs, h => by
  rw [gwseq_cons] at h
  cases e : f k s a n with
  | bad c x => rw [e] at h; cases h
  | ok x s2 a2 n2 =>
   rw [e] at h
   obtain ⟨h1, _⟩ := hf k s a n x s2 a2 n2 hs e
   change (gwSeq f ks s2 a2 n2).bind _ = _ at h
   cases e2 : gwSeq f ks s2 a2 n2 with
   | bad c x => rw [e2] at h; cases h
   | ok l2 s3 a3 n3 =>
    rw [e2] at h
    have h2 := gwseq_k hf ks s2 a2 n2 h1.s2 e2
    change GwR.ok _ _ _ _ = _ at h
    injection h with _ h3 h4 h5
    subst h3 h4 h5
    exact ⟨Nat.le_trans h1.s1 h2.s1, h2.s2, Nat.le_trans h1.a1 h2.a1, Nat.le_trans h2.n1 h1.n1, Nat.le_trans h2.an h1.an⟩
theorem gwput_k (d : CfD) (st : List Int) : ∀ (m : Nat) (k : Int) (s a n : Nat) {x s' a' n'}, s ≤ st.length → gwPut d st m k s a n = .ok x s' a' n' → GwK st.length s a n s' a' n' ∧ n' + 1 ≤ n
 | 0, k, s, a, n, x, s', a', n', hs, h => by unfold gwPut at h; cases h
 | m + 1, k, s, a, n, x, s', a', n', hs, h => by
  unfold gwPut at h
  by_cases hn : n = 0
  ·rw [if_pos hn] at h; cases h
  ·rw [if_neg hn] at h
   by_cases hk : 0 ≤ k
   ·rw [if_pos hk] at h
    injection h with _ h1 h2 h3
    subst h1 h2 h3
    exact ⟨⟨Nat.le_refl _, hs, by omega, by omega, by omega⟩, by omega⟩
   ·rw [if_neg hk] at h
    cases e : st[s]? with
    | none => rw [e] at h; cases h
    | some i =>
     rw [e] at h
     dsimp only at h
     have hlt := (List.getElem?_eq_some_iff.1 e).1
     cases e2 : altD d k i with
     | none => rw [e2] at h; cases h
     | some al =>
      rw [e2] at h
      dsimp only at h
      cases e3 : gwSeq (gwPut d st m) al.l (s + 1) a (n - 1) with
      | bad c x => rw [e3] at h; cases h
      | ok l s2 a2 n2 =>
       rw [e3] at h
       have h2 := gwseq_k (fun k s a n x s' a' n' hs h => gwput_k d st m k s a n hs h) al.l (s + 1) a (n - 1) (by omega) e3
       change GwR.ok _ _ _ _ = _ at h
       injection h with _ h3 h4 h5
       subst h3 h4 h5
       have := h2.s1; have := h2.n1; have := h2.an
       exact ⟨⟨by omega, h2.s2, h2.a1, by omega, by omega⟩, by omega⟩
theorem gwseq_step {F : Int → Nat → Nat → Nat → GwR Tre} {SQ : GwR TrF} {xl : List Int} {j sj aj lj s2 b q : Nat} {Lf : TrF} {t : Tre} {k : Int} (h : SQ = (gwSeq F (xl.drop j) sj aj lj).bind (fun l s b q => .ok (Lf.app l) s b q)) (hd : xl.drop j = k :: xl.drop (j + 1)) (hF : F k sj aj lj = .ok t s2 b q) : SQ = (gwSeq F (xl.drop (j + 1)) s2 b q).bind (fun l s b q => .ok ((Lf.app (t.con .nil)).app l) s b q) := by
 rw [h, hd, gwseq_cons, hF]
 change ((gwSeq F (xl.drop (j + 1)) s2 b q).bind fun l s a n => GwR.ok (t.con l) s a n).bind _ = _
 rw [gwbind_assoc]
 congr 1
 funext l s a n
 show GwR.ok (Lf.app (t.con l)) s a n = GwR.ok ((Lf.app (t.con .nil)).app l) s a n
 rw [TrF.app_assoc]
 rfl
theorem gwseq_bad {F : Int → Nat → Nat → Nat → GwR Tre} {SQ : GwR TrF} {xl : List Int} {j sj aj lj b : Nat} {Lf : TrF} {x k : Int} (h : SQ = (gwSeq F (xl.drop j) sj aj lj).bind (fun l s b q => .ok (Lf.app l) s b q)) (hd : xl.drop j = k :: xl.drop (j + 1)) (hF : F k sj aj lj = .bad b x) : SQ = .bad b x := by
 rw [h, hd, gwseq_cons, hF]
 rfl
theorem gwseq_end {F : Int → Nat → Nat → Nat → GwR Tre} {SQ : GwR TrF} {xl : List Int} {j sj aj lj : Nat} {Lf : TrF} (h : SQ = (gwSeq F (xl.drop j) sj aj lj).bind (fun l s b q => .ok (Lf.app l) s b q)) (hd : xl.length ≤ j) : SQ = .ok Lf sj aj lj := by
 rw [h, List.drop_eq_nil_of_le hd]
 unfold gwSeq
 show GwR.ok (Lf.app .nil) sj aj lj = _
 rw [TrF.app_nil]
theorem gwseq_start {F : Int → Nat → Nat → Nat → GwR Tre} (xl : List Int) (s a n : Nat) : gwSeq F xl s a n = (gwSeq F (xl.drop 0) s a n).bind (fun l s b q => .ok (TrF.nil.app l) s b q) := by
 rw [List.drop_zero]
 show _ = (gwSeq F xl s a n).bind (fun l s b q => GwR.ok l s b q)
 cases gwSeq F xl s a n <;> rfl
end Go.Proofs.Ythogiakfbgehnaa
