/- Texts joined: Le Lk. -/
import Derived.Test.YtfdhaochnbfndaaRABb
import Derived.Test.YtfdhaochnbfndaaRAAv
set_option linter.unusedVariables false
set_option linter.unusedSimpArgs false
namespace Go.Proofs.Ytfdhaochnbfndaa
open Go.RowKit Go.Maps
attribute [local go_sem] Oper.semAt_some
/-- What is answered, but for the tree. -/
def PsR.er {α : Type} : PsR α → Sum (Nat × Int) (Nat × Nat)
 | .bad b x => .inl (b, x)
 | .ok _ b n => .inr (b, n)
def erPl : Sum (Nat × Int) (Nat × Nat) → Nat
 | .inl x => x.1
 | .inr x => x.1
def erBd (r : Sum (Nat × Int) (Nat × Nat)) (c : Nat → Nat → Sum (Nat × Int) (Nat × Nat)) : Sum (Nat × Int) (Nat × Nat) :=
 match r with
 | .inl x => .inl x
 | .inr x => c x.1 x.2
theorem er_pl {α : Type} {r : PsR α} : erPl r.er = r.pl := by cases r <;> rfl
theorem er_seq {f : Int → Nat → Nat → PsR Tre} {k : Int} {ks : List Int} {a n : Nat} : (psSeq f (k :: ks) a n).er = erBd (f k a n).er (fun b q => (psSeq f ks b q).er) := by
 rw [seq_cons]
 cases f k a n with
 | bad b x => rfl
 | ok t b q =>
  show ((psSeq f ks b q).bind fun l a n => PsR.ok (t.con l) a n).er = (psSeq f ks b q).er
  cases psSeq f ks b q <;> rfl
theorem erBd_assoc {r : Sum (Nat × Int) (Nat × Nat)} {c d : Nat → Nat → Sum (Nat × Int) (Nat × Nat)} : erBd (erBd r c) d = erBd r (fun b q => erBd (c b q) d) := by cases r <;> rfl
theorem er_app {f : Int → Nat → Nat → PsR Tre} {ks : List Int} : ∀ {S : List Int} {a n : Nat}, (psSeq f (S ++ ks) a n).er = erBd (psSeq f S a n).er (fun b q => (psSeq f ks b q).er)
 | [], a, n => rfl
 | k :: S, a, n => by
  rw [List.cons_append, er_seq, er_seq, erBd_assoc]
  congr 1
  funext b q
  exact er_app
theorem er_one {f : Int → Nat → Nat → PsR Tre} {k : Int} {a n : Nat} : (psSeq f [k] a n).er = (f k a n).er := by
 rw [er_seq]
 cases f k a n <;> rfl
/-- A rule that is told of is put as its alternative is. -/
theorem er_rule {H : PsG} {k : Int} {a q i : Nat} {ks : List Int} (hk : k < 0) (hq : 0 < q) (hq2 : q ≤ 20000) (h : H.alt (ruL k) a = some (i, ks)) : (psPut H 20000 k a q).er = (psSeq (psPut H 20000) ks a (q - 1)).er := by
 rw [put_deep H 20000 (20000 + 1) k a q hq2 (by omega), psPut, if_neg (by omega), if_neg (by omega), h]
 dsimp only
 cases psSeq (psPut H 20000) ks a (q - 1) <;> rfl
theorem put20 (H : PsG) (k : Int) (a q : Nat) : psPut H 20000 k a q = if q = 0 then .bad a 2 else if 0 ≤ k then (if H.toks[a]? = some k then .ok ⟨k, 0, (a : Int), .nil⟩ (a + 1) (q - 1) else .bad a 110) else match H.alt (ruL k) a with
 | none => .bad a 110
 | some (i, ks) => (psSeq (psPut H 19999) ks a (q - 1)).bind fun l a n => .ok ⟨k, i, 0, l⟩ a n := by
 show psPut H (19999 + 1) k a q = _
 rw [psPut]
 rfl
theorem ruL_one : ruL (-1) = 0 := by unfold ruL; omega
/-- Another list of tokens, the same up to a place. -/
structure AgG (G H : PsG) (p : Nat) : Prop where
 al : H.al = G.al
 tb : H.tb = G.tb
 T : H.T = G.T
 tk : ∀ a, a < p → H.toks[a]? = G.toks[a]?
theorem AgG.alt {G H : PsG} {p : Nat} (h : AgG G H p) {r a : Nat} (ha : a < p) : H.alt r a = G.alt r a := by
 have hn : H.next a = G.next a := by
  unfold PsG.next
  rw [h.tk a ha, h.T]
 unfold PsG.alt
 rw [hn, h.al, h.tb]
theorem AgG.refl (G : PsG) (p : Nat) : AgG G G p := ⟨rfl, rfl, rfl, fun _ _ => rfl⟩
theorem alt_mem {G : PsG} {r a i : Nat} {ks : List Int} (h : G.alt r a = some (i, ks)) : ks ∈ G.al.getD r [] := by
 unfold PsG.alt at h
 split at h
 ·cases h
 ·next j hj =>
  by_cases h0 : 0 ≤ j
  ·rw [if_pos h0, Option.map_eq_some_iff] at h
   obtain ⟨l, hl, e⟩ := h
   injection e with _ e
   subst e
   exact List.mem_of_getElem? hl
  ·rw [if_neg h0] at h; cases h
/-- How something is put: all ahead of a place; or so many symbols are still to be put there. -/
def ReP (G : PsG) (p : Nat) (P : Int → Prop) (R : PsG → Sum (Nat × Int) (Nat × Nat)) (q : Nat) : Prop :=
 (∃ v, erPl v < p ∧ (∀ b n, v = .inr (b, n) → n ≤ q) ∧ ∀ H, AgG G H p → R H = v) ∨
 ∃ S q', q' ≤ q ∧ CohP G.al G.T P S ∧ (∀ x ∈ S, (x < 0 → nulB G.al (ruL x) = true ∨ ∃ t, TokP G.al (nulB G.al) [x] t) ∧ (∀ t, TokP G.al (nulB G.al) [x] t → t < (G.T : Int))) ∧ ∀ H, AgG G H p → R H = (psSeq (psPut H 20000) S p q').er
def OkX (G : PsG) (x : Int) : Prop := (x < 0 → nulB G.al (ruL x) = true ∨ ∃ t, TokP G.al (nulB G.al) [x] t) ∧ (∀ t, TokP G.al (nulB G.al) [x] t → t < (G.T : Int))
theorem coh_one {al : List (List (List Int))} {T : Nat} {k : Int} : CohP al T (FolK al T k) [k] := ⟨fun t ht => by
 rcases ht with ht | ⟨_, h⟩
 ·obtain ⟨y, hy, _⟩ := tok_iff.1 ht
  cases hy
 ·exact h, trivial⟩
theorem reSeq {G : PsG} {p : Nat} {q0 : Nat} (hq0 : q0 ≤ 20000) (ih : ∀ q, q ≤ q0 → ∀ k a, a ≤ p → OkX G k → ReP G p (FolK G.al G.T k) (fun H => (psPut H 20000 k a q).er) q) {P : Int → Prop} : ∀ (ks : List Int) (a q : Nat), a ≤ p → q ≤ q0 → CohP G.al G.T P ks → (∀ x ∈ ks, OkX G x) → ReP G p P (fun H => (psSeq (psPut H 20000) ks a q).er) q
 | ks, a, q, ha, hq, hc, ho => by
  by_cases hap : a = p
  ·subst hap
   exact .inr ⟨ks, q, Nat.le_refl _, hc, ho, fun H _ => rfl⟩
  ·match ks, hc, ho with
   | [], _, _ => exact .inl ⟨.inr (a, q), by show a < p; omega, fun b n e => by injection e with e; injection e with _ e; omega, fun H _ => rfl⟩
   | k :: ks, hc, ho =>
    rcases ih q hq k a ha (ho k (by simp)) with ⟨v, hv, hvn, hR⟩ | ⟨S, q', hq', hS, hoS, hR⟩
    ·match v, hv, hvn, hR with
     | .inl x, hv, _, hR => exact .inl ⟨.inl x, hv, fun b n e => (nomatch e), fun H hH => by show (psSeq _ _ _ _).er = _; rw [er_seq, show (psPut H 20000 k a q).er = _ from hR H hH]; rfl⟩
     | .inr (b, n), hv, hvn, hR =>
      have hn := hvn b n rfl
      rcases reSeq hq0 ih ks b n (Nat.le_of_lt hv) (Nat.le_trans hn hq) hc.2 (fun x hx => ho x (List.mem_cons_of_mem _ hx)) with ⟨v2, hv2, hvn2, hR2⟩ | ⟨S2, q2, hq2, hS2, hoS2, hR2⟩
      ·exact .inl ⟨v2, hv2, fun b n e => Nat.le_trans (hvn2 b n e) hn, fun H hH => by show (psSeq _ _ _ _).er = _; rw [er_seq, show (psPut H 20000 k a q).er = _ from hR H hH]; exact hR2 H hH⟩
      ·exact .inr ⟨S2, q2, Nat.le_trans hq2 hn, hS2, hoS2, fun H hH => by show (psSeq _ _ _ _).er = _; rw [er_seq, show (psPut H 20000 k a q).er = _ from hR H hH]; exact hR2 H hH⟩
    ·refine .inr ⟨S ++ ks, q', hq', coh_app hc hS, fun x hx => ?_, fun H hH => ?_⟩
     ·rcases List.mem_append.1 hx with hx | hx
      ·exact hoS x hx
      ·exact ho x (List.mem_cons_of_mem _ hx)
     ·show (psSeq _ _ _ _).er = _
      rw [er_seq, er_app, show (psPut H 20000 k a q).er = _ from hR H hH]
termination_by ks => ks.length
theorem rePut {G : PsG} (hG : OwnG G) {p : Nat} : ∀ (n q : Nat), q ≤ n → n ≤ 20000 → ∀ k a, a ≤ p → OkX G k → ReP G p (FolK G.al G.T k) (fun H => (psPut H 20000 k a q).er) q
 | n, q, hqn, hn2, k, a, ha, hok => by
  by_cases hap : a = p
  ·subst hap
   exact .inr ⟨[k], q, Nat.le_refl _, coh_one, fun x hx => by rw [List.mem_singleton] at hx; subst hx; exact hok, fun H _ => er_one.symm⟩
  ·have hlt : a < p := by omega
   by_cases hq : q = 0
   ·subst hq
    exact .inl ⟨.inl (a, 2), hlt, fun b n e => (nomatch e), fun H _ => by show (psPut H 20000 k a 0).er = _; rw [put20, if_pos rfl]; rfl⟩
   ·by_cases hk : 0 ≤ k
    ·have e : ∀ H, psPut H 20000 k a q = if H.toks[a]? = some k then .ok ⟨k, 0, (a : Int), .nil⟩ (a + 1) (q - 1) else .bad a 110 := fun H => by
      rw [put20, if_neg hq, if_pos hk]
     by_cases ht : G.toks[a]? = some k
     ·have e2 : ∀ H, AgG G H p → (psPut H 20000 k a q).er = .inr (a + 1, q - 1) := fun H hH => by
       rw [e, if_pos (by rw [hH.tk a hlt]; exact ht)]; rfl
      by_cases h1 : a + 1 = p
      ·exact .inr ⟨[], q - 1, by omega, trivial, fun x hx => (nomatch hx), fun H hH => by show (psPut H 20000 k a q).er = _; rw [e2 H hH, h1]; rfl⟩
      ·exact .inl ⟨_, by show a + 1 < p; omega, fun b n e => by injection e with e; injection e with _ e; omega, e2⟩
     ·exact .inl ⟨.inl (a, 110), hlt, fun b n e => (nomatch e), fun H hH => by show (psPut H 20000 k a q).er = _; rw [e, if_neg (by rw [hH.tk a hlt]; exact ht)]; rfl⟩
    ·cases e : G.alt (ruL k) a with
     | none =>
      refine .inl ⟨.inl (a, 110), hlt, fun b n e => (nomatch e), fun H hH => ?_⟩
      show (psPut H 20000 k a q).er = _
      rw [put20, if_neg hq, if_neg hk, hH.alt hlt, e]
      rfl
     | some x =>
      obtain ⟨i, ks⟩ := x
      have ha2 : ks ∈ G.al.getD (ruL k) [] := alt_mem e
      have hs := reSeq (G := G) (p := p) (q0 := q - 1) (P := FolP G.al (nulB G.al) G.T (ruL k)) (by omega) (fun q2 hq2 k2 a2 ha2 hok2 => rePut hG (q - 1) q2 hq2 (by omega) k2 a2 ha2 hok2) ks a (q - 1) ha (Nat.le_refl _) (coh_alt ha2) (fun x hx => hG.may _ ks ha2 x hx)
      have e3 : ∀ H, AgG G H p → (psPut H 20000 k a q).er = (psSeq (psPut H 20000) ks a (q - 1)).er := fun H hH => er_rule (by omega) (by omega) (by omega) (by rw [hH.alt hlt]; exact e)
      rcases hs with ⟨v, hv, hvn, hR⟩ | ⟨S, q', hq', hS, hoS, hR⟩
      ·exact .inl ⟨v, hv, fun b n e => by have := hvn b n e; omega, fun H hH => (e3 H hH).trans (hR H hH)⟩
      ·exact .inr ⟨S, q', by omega, coh_imp (fun t h => h (by omega)) hS, hoS, fun H hH => (e3 H hH).trans (hR H hH)⟩
termination_by n q => q
decreasing_by omega
/-- What is refused ahead of a place is refused so, whatever stands behind it. -/
theorem tree_ag {G H : PsG} (hG : OwnG G) {p : Nat} (hp : p ≤ G.toks.length) (hH : AgG G H p) (hl : p ≤ H.toks.length) {b : Nat} (h : psTree G = .bad b 110) (hb : b < p) : psTree H = .bad b 110 := by
 unfold psTree at h ⊢
 rcases rePut hG (p := p) 20000 20000 (Nat.le_refl _) (Nat.le_refl _) (-1) 0 (Nat.zero_le _) ⟨fun _ => by rw [ruL_one]; exact hG.may0.1, hG.may0.2⟩ with ⟨v, hv, hvn, hR⟩ | ⟨S, q', hq', hS, hoS, hR⟩
 ·have h1 := hR G (AgG.refl G p)
  have h2 := hR H hH
  dsimp only at h1 h2
  cases e1 : psPut G 20000 (-1) 0 20000 with
  | bad c x =>
   rw [e1] at h h1
   cases e2 : psPut H 20000 (-1) 0 20000 with
   | bad c2 x2 =>
    rw [e2, ← h1] at h2
    change PsR.bad c x = _ at h
    injection h2 with h2
    injection h2 with h3 h4
    subst h3 h4
    exact h
   | ok t c2 n2 => rw [e2, ← h1] at h2; cases h2
  | ok t c n =>
   rw [e1] at h h1
   cases e2 : psPut H 20000 (-1) 0 20000 with
   | bad c2 x2 => rw [e2, ← h1] at h2; cases h2
   | ok t2 c2 n2 =>
    rw [e2, ← h1] at h2
    injection h2 with h2
    injection h2 with h3 h4
    subst h3
    rw [← h1] at hv
    have hv : c2 < p := hv
    change (if c2 < G.toks.length then PsR.bad c2 110 else PsR.ok t 0 0) = _ at h
    show (if c2 < H.toks.length then PsR.bad c2 110 else PsR.ok t2 0 0) = _
    rw [if_pos (by omega)] at h ⊢
    exact h
 ·have h1 := hR G (AgG.refl G p)
  dsimp only at h1
  have h2 := seq_up (put_up G 20000) S p q'
  rw [← er_pl, ← h1, er_pl] at h2
  cases e1 : psPut G 20000 (-1) 0 20000 with
  | bad c x =>
   rw [e1] at h h2
   change PsR.bad c x = _ at h
   injection h with h _
   subst h
   exact absurd h2 (by show ¬ p ≤ c; omega)
  | ok t c n =>
   rw [e1] at h h2
   have h2 : p ≤ c := h2
   change (if c < G.toks.length then PsR.bad c 110 else PsR.ok t 0 0) = _ at h
   by_cases hc : c < G.toks.length
   ·rw [if_pos hc] at h; injection h with h _; omega
   ·rw [if_neg hc] at h; cases h
/-- More tokens behind them. -/
def PsG.more (G : PsG) (l : List Int) : PsG := { G with toks := G.toks ++ l }
theorem OwnG.more {G : PsG} (h : OwnG G) (l : List Int) : OwnG (G.more l) := ⟨h.row, h.one, h.lt, h.may, h.may0⟩
theorem AgG.more (G : PsG) (l : List Int) : AgG G (G.more l) G.toks.length := ⟨rfl, rfl, rfl, fun a ha => by show (G.toks ++ l)[a]? = _; rw [List.getElem?_append_left ha]⟩
theorem lead_some2 {al : List (List (List Int))} : ∀ {a : List Int}, (∀ x ∈ a, x < 0 → nulB al (ruL x) = true ∨ ∃ t, TokP al (nulB al) [x] t) → emp (nulB al) a = true ∨ ∃ t, TokP al (nulB al) (ahd (nulB al) a) t := fun h => lead_some h
/-- What is refused at the end wants some token. -/
theorem wants {G : PsG} (hG : OwnG G) (h : psTree G = .bad G.toks.length 110) : ∃ n, n < G.T ∧ goB (G.toks.length + 1) (psTree (G.more [(n : Int)])) = true := by
 obtain ⟨p, hp⟩ : ∃ p, p = G.toks.length := ⟨_, rfl⟩
 rw [← hp] at h ⊢
 rcases rePut hG (p := p) 20000 20000 (Nat.le_refl _) (Nat.le_refl _) (-1) 0 (Nat.zero_le _) ⟨fun _ => by rw [ruL_one]; exact hG.may0.1, hG.may0.2⟩ with ⟨v, hv, hvn, hR⟩ | ⟨S, q', hq', hS, hoS, hR⟩
 ·exfalso
  have h1 := hR G (AgG.refl G p)
  dsimp only at h1
  unfold psTree at h
  cases e1 : psPut G 20000 (-1) 0 20000 with
  | bad c x =>
   rw [e1] at h h1
   rw [← h1] at hv
   change PsR.bad c x = _ at h
   injection h with h _
   have hv : c < p := hv
   omega
  | ok t c n =>
   rw [e1] at h h1
   rw [← h1] at hv
   have hv : c < p := hv
   change (if c < G.toks.length then PsR.bad c 110 else PsR.ok t 0 0) = _ at h
   rw [if_pos (by omega)] at h
   injection h with h _
   omega
 ·have h1 := hR G (AgG.refl G p)
  dsimp only at h1
  have hno : ¬ NotRef p (psSeq (psPut G 20000) S p q') := by
   intro hn
   unfold psTree at h
   have h2 := seq_up (put_up G 20000) S p q'
   rw [← er_pl, ← h1, er_pl] at h2
   cases e1 : psPut G 20000 (-1) 0 20000 with
   | bad c x =>
    rw [e1] at h h1
    change PsR.bad c x = _ at h
    injection h with h3 h4
    rw [h3, h4] at h1
    clear h3 h4 e1 h2
    cases e2 : psSeq (psPut G 20000) S p q' with
    | bad c2 x2 =>
     rw [e2] at hn h1
     injection h1 with h1
     injection h1 with h5 h6
     rcases hn with hn | hn
     ·omega
     ·omega
    | ok l c2 n2 => rw [e2] at h1; cases h1
   | ok t c n =>
    rw [e1] at h h2
    have h2 : p ≤ c := h2
    change (if c < G.toks.length then PsR.bad c 110 else PsR.ok t 0 0) = _ at h
    by_cases hc : c < G.toks.length
    ·omega
    ·rw [if_neg hc] at h; cases h
  rcases lead_some2 (al := G.al) (a := S) (fun x hx => (hoS x hx).1) with he | ⟨t, ht⟩
  ·refine absurd (seqB (Z := fun k => k < 0 ∧ nulB G.al (ruL k) = true ∧ FolP G.al (nulB G.al) G.T (ruL k) (G.next p)) (fun k q hz => putB hG p 20000 k q hz) (put_up G 20000) S q' ?_) hno
   have hfe : FolK G.al G.T (-1) (G.next p) := fun _ => by
    rw [next_end (by omega)]
    exact fol_end
   clear h1 hno hR hoS
   induction S with
   | nil => intro x hx; cases hx
   | cons y v ih =>
    rw [emp_cons, Bool.and_eq_true, Bool.and_eq_true, decide_eq_true_eq] at he
    intro x hx
    rcases List.mem_cons.1 hx with rfl | hx
    ·exact ⟨he.1.1, he.1.2, hS.1 _ (.inr ⟨he.2, hfe⟩) he.1.1⟩
    ·exact ih hS.2 he.2 x hx
  ·have hlt : t < (G.T : Int) := by
    obtain ⟨x, hx, h3⟩ := tok_iff.1 ht
    exact (hoS x (ahd_sub hx)).2 t h3
   have h0 : 0 ≤ t := ht.1
   obtain ⟨n, rfl⟩ : ∃ n : Nat, t = (n : Int) := ⟨t.toNat, by omega⟩
   refine ⟨n, by omega, ?_⟩
   have hlen : (G.more [(n : Int)]).toks.length = p + 1 := by show (G.toks ++ [(n : Int)]).length = _; rw [List.length_append, hp]; rfl
   have hnx : (G.more [(n : Int)]).next p = (n : Int) := by
    unfold PsG.next
    show (((G.toks ++ [(n : Int)])[p]?).getD _) = _
    rw [hp, List.getElem?_append_right (Nat.le_refl _), Nat.sub_self]
    rfl
   have hG2 := hG.more [(n : Int)]
   have hA : Up p (psSeq (psPut (G.more [(n : Int)]) 20000) S p q') := seqA (G := G.more [(n : Int)]) (P := FolK G.al G.T (-1)) (fun k q hz => putA hG2 (by omega) 20000 k q hz) (fun k q hz => putB hG2 p 20000 k q hz) (put_up _ 20000) S q' hS (by rw [hnx]; exact ht)
   have h4 := hR (G.more [(n : Int)]) (by rw [hp]; exact AgG.more G _)
   dsimp only at h4
   have hin := put_in (G.more [(n : Int)]) 20000 (-1) 0 20000 (Nat.zero_le _)
   rw [hlen] at hin
   unfold psTree
   rw [hlen]
   cases e1 : psPut (G.more [(n : Int)]) 20000 (-1) 0 20000 with
   | bad c x =>
    rw [e1] at h4 hin
    have hin : c ≤ p + 1 := hin
    refine decide_eq_true ?_
    cases e2 : psSeq (psPut (G.more [(n : Int)]) 20000) S p q' with
    | bad c2 x2 =>
     rw [e2] at hA h4
     injection h4 with h4
     injection h4 with h5 h6
     subst h5 h6
     rcases hA with hA | hA
     ·exact .inl (by omega)
     ·exact .inr (by omega)
    | ok l c2 n2 => rw [e2] at h4; cases h4
   | ok t c n2 =>
    rw [e1] at h4 hin
    show goB (p + 1) (if c < p + 1 then PsR.bad c 110 else PsR.ok t 0 0) = true
    have hc : p < c := by
     cases e2 : psSeq (psPut (G.more [(n : Int)]) 20000) S p q' with
     | bad c2 x2 => rw [e2] at h4; cases h4
     | ok l c2 n3 =>
      rw [e2] at hA h4
      injection h4 with h4
      injection h4 with h5 h6
      subst h5
      exact hA
    rw [if_neg (by omega)]
    rfl
end Go.Proofs.Ytfdhaochnbfndaa
namespace Go.Proofs.Ytfdhaochnbfndaa
open Go.RowKit Go.Maps
attribute [local go_sem] Oper.semAt_some
theorem own_of {d : CfD} (hw : few10 d = true) (hcl : allCl (d.alts.map IrD.p) (nulB (d.alts.map IrD.p)) d.toks.length = []) {rs : List IltD} {toks : List Int}
 (hrow : ∀ r, r < (d.alts.map IrD.p).length → rowL rs r = rowT (fun t j => takB (d.alts.map IrD.p) (nulB (d.alts.map IrD.p)) d.toks.length r (t : Int) j) ((d.alts.map IrD.p).getD r []).length (d.toks.length + 1)) : OwnG (gOf d rs toks) := by
 have hf := few10_fit hw
 have hM := few10_may hw
 have hpl : (d.alts.map IrD.p).length = d.alts.length := List.length_map _
 have hnl : d.names.length = d.alts.length := hM.len.trans hpl
 have hok : ∀ r, ∀ a ∈ (d.alts.map IrD.p).getD r [], OkL d.toks.length d.alts.length a := fun r a ha x hx => by
  have := hM.ok r a ha x hx
  rwa [hnl] at this
 have hder : ∀ x : Int, x < 0 → -(d.alts.length : Int) ≤ x → nulB (d.alts.map IrD.p) (ruL x) = true ∨ ∃ t, TokP (d.alts.map IrD.p) (nulB (d.alts.map IrD.p)) [x] t := fun x h0 h1 => by
  obtain ⟨m, hm⟩ := hM.der (ruL x) (by unfold ruL; omega)
  have := der_some hm
  rwa [of_ruL h0] at this
 have hr0 := hf.r0
 refine ⟨hrow, hcl, fun r a ha t ht => tak_le hf (hok r a ha) ht, fun r a ha x hx => ⟨fun h0 => hder x h0 (hok r a ha x hx).1, fun t ht => tok_lt hf (l := [x]) (fun y hy => by rw [List.mem_singleton] at hy; subst hy; exact hok r a ha y hx) ht⟩, ⟨by have h9 := hder (-1) (by omega) (by omega); rw [ruL_one] at h9; exact h9, fun t ht => tok_lt hf (l := [-1]) (fun y hy => by rw [List.mem_singleton] at hy; subst hy; omega) ht⟩⟩
theorem firstB_left {T : Nat} : ∀ {l m : List Int}, firstB T (l ++ m) = none → firstB T l = none
 | [], _, _ => rfl
 | k :: l, m, h => by
  rw [List.cons_append, firstB] at h
  rw [firstB]
  by_cases hk : k < 0 ∨ (T : Int) ≤ k
  ·rw [if_pos hk] at h; cases h
  ·rw [if_neg hk, Option.map_eq_none_iff] at h
   rw [if_neg hk, firstB_left h]
   rfl
theorem goL_mem {G : PsG} {T : Nat} {x : Int} : x ∈ goL G T ↔ ∃ n : Nat, n < T ∧ goB (G.toks.length + 1) (psTree (G.more [(n : Int)])) = true ∧ x = (n : Int) := by
 unfold goL
 rw [List.mem_map]
 constructor
 ·rintro ⟨n, hn, rfl⟩
  rw [List.mem_filter, List.mem_range] at hn
  exact ⟨n, hn.1, hn.2, rfl⟩
 ·rintro ⟨n, h1, h2, rfl⟩
  exact ⟨n, by rw [List.mem_filter, List.mem_range]; exact ⟨h1, h2⟩, rfl⟩
theorem parse_tree {G : PsG} (h : firstB G.T G.toks = none) : psParse G = psTree G := by
 unfold psParse
 rw [h]
/-- What is refused at a token is refused there, whatever stands behind it; then nothing is wanted. -/
theorem early1 {G : PsG} (hG : OwnG G) {more : List Int} (hfb : firstB G.T (G.toks ++ more) = none) {b : Nat} (h : psParse G = .bad b 110) (hb : b < G.toks.length) : psParse (G.more more) = .bad b 110 ∧ wantP G = [] := by
 constructor
 ·have h2 := h
  rw [parse_tree (firstB_left hfb)] at h2
  rw [parse_tree (G := G.more more) hfb]
  exact tree_ag hG (Nat.le_refl _) (AgG.more G more) (by show _ ≤ (G.toks ++ more).length; rw [List.length_append]; omega) h2 hb
 ·unfold wantP
  rw [h]
  exact if_pos (.inr ⟨rfl, hb⟩)
/-- What is not refused at a token wants something, and what is not wanted is refused. -/
theorem early2 {G : PsG} (hG : OwnG G) {more : List Int} (hfb : firstB G.T (G.toks ++ more) = none) (h : ∀ b y, psParse G = .bad b y → y = 110 ∧ G.toks.length ≤ b) :
 wantP G ≠ [] ∧ ((G.T : Int) ∈ wantP G ↔ ∃ t a n, psParse G = .ok t a n) ∧ ∀ n l, more = n :: l → n ∈ wantP G ∨ psParse (G.more more) = .bad G.toks.length 110 := by
 have hT := parse_tree (firstB_left hfb)
 have hno : (G.T : Int) ∉ goL G G.T := fun e => by
  obtain ⟨n, h1, _, h3⟩ := goL_mem.1 e
  omega
 have hsub : ∀ x, x ∈ goL G G.T → x ∈ wantP G := fun x hx => by
  unfold wantP
  cases e : psParse G with
  | bad b y =>
   obtain ⟨rfl, h2⟩ := h b y e
   dsimp only
   rw [if_neg (by omega)]
   exact hx
  | ok t a n => exact List.mem_append_left _ hx
 refine ⟨?_, ?_, ?_⟩
 ·cases e : psParse G with
  | bad b y =>
   obtain ⟨rfl, h2⟩ := h b y e
   have h3 := parse_in e
   have hbl : b = G.toks.length := by omega
   rw [hT, hbl] at e
   obtain ⟨n, hn, hg⟩ := wants hG e
   exact List.ne_nil_of_mem (hsub _ (goL_mem.2 ⟨n, hn, hg, rfl⟩))
  | ok t a n =>
   unfold wantP
   rw [e]
   simp
 ·cases e : psParse G with
  | bad b y =>
   obtain ⟨rfl, h2⟩ := h b y e
   constructor
   ·intro hm
    unfold wantP at hm
    rw [e] at hm
    dsimp only at hm
    rw [if_neg (by omega)] at hm
    exact absurd hm hno
   ·rintro ⟨t, a, n, h9⟩
    cases h9
  | ok t a n =>
   constructor
   ·exact fun _ => ⟨t, a, n, rfl⟩
   ·intro _
    unfold wantP
    rw [e]
    simp
 ·rintro n l rfl
  have hn : 0 ≤ n ∧ n < (G.T : Int) := firstB_none hfb n (by simp)
  obtain ⟨k, rfl⟩ : ∃ k : Nat, n = (k : Int) := ⟨n.toNat, by omega⟩
  by_cases hg : goB (G.toks.length + 1) (psTree (G.more [(k : Int)])) = true
  ·exact .inl (hsub _ (goL_mem.2 ⟨k, by omega, hg, rfl⟩))
  ·refine .inr ?_
   have hl1 : (G.more [(k : Int)]).toks.length = G.toks.length + 1 := by show (G.toks ++ [(k : Int)]).length = _; rw [List.length_append]; rfl
   have hmm : (G.more [(k : Int)]).more l = G.more ((k : Int) :: l) := by unfold PsG.more; simp
   cases e : psTree (G.more [(k : Int)]) with
   | ok t a n => rw [e] at hg; exact absurd rfl hg
   | bad c x =>
    rw [e] at hg
    have hg : ¬ decide (x ≠ 110 ∨ c = G.toks.length + 1) = true := hg
    rw [decide_eq_true_eq] at hg
    have hx : x = 110 := Classical.byContradiction fun h9 => hg (.inl h9)
    have hc : c ≠ G.toks.length + 1 := fun h9 => hg (.inr h9)
    subst hx
    have hin := tree_in e
    rw [hl1] at hin
    have h5 := tree_ag (hG.more [(k : Int)]) (H := G.more ((k : Int) :: l)) (p := G.toks.length + 1) (by omega) (by rw [← hmm, ← hl1]; exact AgG.more _ l) (by show _ ≤ (G.toks ++ (k : Int) :: l).length; rw [List.length_append, List.length_cons]; omega) e (by omega)
    rw [parse_tree (G := G.more ((k : Int) :: l)) hfb, h5]
    by_cases hcl : c < G.toks.length
    ·exfalso
     have h6 := tree_ag (hG.more [(k : Int)]) (H := G) (p := G.toks.length) (by omega) ⟨rfl, rfl, rfl, fun a ha => by show _ = (G.toks ++ [(k : Int)])[a]?; rw [List.getElem?_append_left ha]⟩ (Nat.le_refl _) e hcl
     have := (h c 110 (hT.trans h6)).2
     omega
    ·rw [show c = G.toks.length by omega]
end Go.Proofs.Ytfdhaochnbfndaa
