/- Texts joined: Sa Sb Sc. -/
import Derived.Test.YtngbfjimmdkfeaaPXN
set_option linter.unusedVariables false
set_option linter.unusedSimpArgs false
namespace Go.Proofs.Ytngbfjimmdkfeaa
open Go.RowKit

/-- The beginnings of the parts from k on. -/
def altS (ns : List Nod) : Nat → Int → List Nat
  | 0, _ => []
  | F + 1, k => if k = -1 then [] else 2 * k.toNat :: altS ns F (ns.getD k.toNat nod0).next
def beginS (ns : List Nod) (i : Nat) : List Nat :=
  if (ns.getD i nod0).k = 1 then [2 * i + 1]
  else if (ns.getD i nod0).k = 2 then []
  else if (ns.getD i nod0).k = 4 then altS ns ns.length ((i : Int) + 1)
  else if (ns.getD i nod0).k = 5 ∨ (ns.getD i nod0).k = 7 then [2 * (i + 1), 2 * i + 1]
  else [2 * (i + 1)]
def endS (ns : List Nod) (i : Nat) : List Nat :=
  if (ns.getD i nod0).up = -1 then [] else
  if (ns.getD (ns.getD i nod0).up.toNat nod0).k = 5 ∨ (ns.getD (ns.getD i nod0).up.toNat nod0).k = 6 then [2 * i, 2 * (ns.getD i nod0).up.toNat + 1]
  else if (ns.getD (ns.getD i nod0).up.toNat nod0).k = 3 then (if (ns.getD i nod0).next = -1 then [2 * (ns.getD i nod0).up.toNat + 1] else [2 * (ns.getD i nod0).next.toNat])
  else [2 * (ns.getD i nod0).up.toNat + 1]
/-- Where one comes from a state without a byte. -/
def oneS (ns : List Nod) (st : Nat) : List Nat := if st % 2 = 0 then beginS ns (st / 2) else endS ns (st / 2)
/-- The beginning of a Set. -/
def isSt (ns : List Nod) (st : Nat) : Prop := st % 2 = 0 ∧ (ns.getD (st / 2) nod0).k = 2

def foldMeet (l : List Nat) (m : MS) : MS := l.foldl (fun m x => meetP x m) m
theorem altM_fold (ns : List Nod) : ∀ (F : Nat) (k : Int) (m : MS), altM ns F k m = foldMeet (altS ns F k) m := by
  intro F
  induction F with
  | zero => intro k m; rfl
  | succ F ih =>
    intro k m
    rw [altM, altS]
    split
    · rfl
    · rw [ih]; rfl
theorem beginM_fold (ns : List Nod) (i : Nat) (m : MS) : ((ns.getD i nod0).k ≠ 2 → beginM ns i m = foldMeet (beginS ns i) m) ∧ ((ns.getD i nod0).k = 2 → beginS ns i = [] ∧ beginM ns i m = { m with sets := m.sets ++ [i] }) := by
  unfold beginM beginS
  simp only []
  generalize (ns.getD i nod0).k = K
  by_cases h1 : K = 1
  · subst h1; exact ⟨fun _ => rfl, fun h => absurd h (by decide)⟩
  by_cases h2 : K = 2
  · subst h2; exact ⟨fun h => absurd rfl h, fun _ => ⟨rfl, rfl⟩⟩
  refine ⟨fun _ => ?_, fun h => absurd h h2⟩
  rw [if_neg h1, if_neg h1, if_neg h2, if_neg h2]
  by_cases h4 : K = 4
  · rw [if_pos h4, if_pos h4, altM_fold]
  rw [if_neg h4, if_neg h4]
  by_cases h5 : K = 5 ∨ K = 7
  · rw [if_pos h5, if_pos h5]; rfl
  · rw [if_neg h5, if_neg h5]; rfl
theorem endM_fold (ns : List Nod) (i : Nat) (m : MS) : endM ns i m = foldMeet (endS ns i) m := by
  unfold endM endS
  simp only []
  by_cases h1 : (ns.getD i nod0).up = -1
  · rw [if_pos h1, if_pos h1]; rfl
  rw [if_neg h1, if_neg h1]
  generalize (ns.getD (ns.getD i nod0).up.toNat nod0).k = K
  by_cases h2 : K = 5 ∨ K = 6
  · rw [if_pos h2, if_pos h2]; rfl
  rw [if_neg h2, if_neg h2]
  by_cases h3 : K = 3
  · rw [if_pos h3, if_pos h3]
    by_cases h4 : (ns.getD i nod0).next = -1
    · rw [if_pos h4, if_pos h4]; rfl
    · rw [if_neg h4, if_neg h4]; rfl
  · rw [if_neg h3, if_neg h3]; rfl
theorem oneM_fold (ns : List Nod) (st : Nat) (m : MS) : (¬ isSt ns st → oneM ns st m = foldMeet (oneS ns st) m) ∧ (isSt ns st → oneS ns st = [] ∧ oneM ns st m = { m with sets := m.sets ++ [st / 2] }) := by
  unfold oneM oneS isSt
  obtain ⟨b1, b2⟩ := beginM_fold ns (st / 2) m
  by_cases h2 : st % 2 = 0
  · rw [if_pos h2, if_pos h2]
    exact ⟨fun h => b1 (fun e => h ⟨h2, e⟩), fun h => b2 h.2⟩
  · rw [if_neg h2, if_neg h2]
    exact ⟨fun _ => endM_fold ns (st / 2) m, fun h => absurd h.1 h2⟩

/-- A state was met in this round. -/
def Met (m : MS) (x : Nat) : Prop := x < m.met.length ∧ m.met.getD x 0 = m.now
/-- No state was met in a round to come. -/
def Past (m : MS) : Prop := ∀ x, m.met.getD x 0 ≤ m.now
theorem getD_set (l : List Nat) (i x v : Nat) (hi : i < l.length) : (l.set i v).getD x 0 = if x = i then v else l.getD x 0 := by
  rw [List.getD_eq_getElem?_getD, List.getElem?_set, List.getD_eq_getElem?_getD]
  by_cases h : i = x
  · subst h; simp [hi]
  · rw [if_neg h, if_neg (fun e => h e.symm)]
theorem meet_is {m : MS} {st : Nat} (hp : Past m) (hst : st < m.met.length) :
    Past (meetP st m) ∧ (∀ x, Met (meetP st m) x ↔ Met m x ∨ x = st) ∧ (∀ x, x ∈ m.opn → x ∈ (meetP st m).opn) ∧ (∀ x, x ∈ (meetP st m).opn → x ∈ m.opn ∨ x = st) ∧ (∀ x, Met (meetP st m) x → Met m x ∨ x ∈ (meetP st m).opn) := by
  unfold meetP
  split
  · rename_i hlt
    refine ⟨fun x => ?_, fun x => ?_, fun x hx => by simp [hx], fun x hx => by simpa using hx, fun x hx => ?_⟩
    · simp only [getD_set _ _ _ _ hst]
      split
      · exact Nat.le_refl _
      · exact hp x
    · unfold Met
      simp only [getD_set _ _ _ _ hst, List.length_set]
      by_cases h : x = st
      · subst h; simp [hst]
      · rw [if_neg h]; simp [h]
    · unfold Met at hx ⊢
      simp only [getD_set _ _ _ _ hst, List.length_set] at hx
      by_cases h : x = st
      · right; simp [h]
      · rw [if_neg h] at hx; exact .inl hx
  · rename_i hge
    have hm : Met m st := ⟨hst, by have := hp st; omega⟩
    exact ⟨hp, fun x => ⟨fun h => .inl h, fun h => h.elim id (fun e => e ▸ hm)⟩, fun x hx => hx, fun x hx => .inl hx, fun x hx => .inl hx⟩
theorem fold_is : ∀ (l : List Nat) (m : MS), Past m → (∀ x ∈ l, x < m.met.length) →
    Past (foldMeet l m) ∧ (foldMeet l m).met.length = m.met.length ∧ (foldMeet l m).sets = m.sets ∧ (foldMeet l m).now = m.now ∧ (∀ x, Met (foldMeet l m) x ↔ Met m x ∨ x ∈ l) ∧ (∀ x, x ∈ m.opn → x ∈ (foldMeet l m).opn) ∧ (∀ x, x ∈ (foldMeet l m).opn → x ∈ m.opn ∨ x ∈ l) ∧ (∀ x, Met (foldMeet l m) x → Met m x ∨ x ∈ (foldMeet l m).opn) := by
  intro l
  induction l with
  | nil => intro m hp _; exact ⟨hp, rfl, rfl, rfl, fun x => by simp [foldMeet], fun x h => h, fun x h => .inl h, fun x h => .inl h⟩
  | cons a l ih =>
    intro m hp hl
    obtain ⟨p1, p2, p3, p4, p5⟩ := meet_is hp (hl a (by simp))
    obtain ⟨q1, q2, q3, q4, q5, q6, q7, q8⟩ := ih (meetP a m) p1 (fun x hx => by rw [meetP_len]; exact hl x (by simp [hx]))
    have e : foldMeet (a :: l) m = foldMeet l (meetP a m) := rfl
    rw [e]
    refine ⟨q1, q2.trans (meetP_len _ _), q3.trans (meetP_sets _ _), q4.trans (meetP_now _ _), fun x => ?_, fun x hx => q6 x (p3 x hx), fun x hx => ?_, fun x hx => ?_⟩
    · rw [q5, p2]; simp only [List.mem_cons]; exact ⟨fun h => h.elim (fun h => h.elim .inl (fun h => .inr (.inl h))) (fun h => .inr (.inr h)), fun h => h.elim (fun h => .inl (.inl h)) (fun h => h.elim (fun h => .inl (.inr h)) .inr)⟩
    · rcases q7 x hx with h | h
      · rcases p4 x h with h | h
        · exact .inl h
        · exact .inr (by simp [h])
      · exact .inr (by simp [h])
    · rcases q8 x hx with h | h
      · rcases p5 x h with h | h
        · exact .inl h
        · exact .inr (q6 x h)
      · exact .inr h

/-- What the worklist keeps. -/
structure Inv (ns : List Nod) (P Q : Nat → Prop) (m : MS) : Prop where
  base : ∀ x, Q x → Met m x
  past : Past m
  len : m.met.length = 2 * ns.length
  sound : ∀ x, Met m x → P x
  opn : ∀ x ∈ m.opn, Met m x
  setsS : ∀ i ∈ m.sets, isSt ns (2 * i) ∧ Met m (2 * i)
  compl : ∀ x, Met m x → x ∈ m.opn ∨ ((∀ y ∈ oneS ns x, Met m y) ∧ (isSt ns x → x / 2 ∈ m.sets))
theorem inv_one {ns : List Nod} {P Q : Nat → Prop} {m : MS} {st : Nat} (h : Inv ns P Q m) (hst : m.opn.getLast? = some st) (hP : ∀ x y, P x → y ∈ oneS ns x → P y) (hb : ∀ x y, x < 2 * ns.length → y ∈ oneS ns x → y < 2 * ns.length) : Inv ns P Q (oneM ns st (popM m)) := by
  have hms : st ∈ m.opn := List.mem_of_getLast? hst
  have hmt := h.opn st hms
  obtain ⟨l, hl⟩ := List.getLast?_eq_some_iff.1 hst
  have hpop : (popM m).opn = l := by unfold popM; simp [hl]
  have hin : ∀ x, x ∈ m.opn ↔ x ∈ l ∨ x = st := fun x => by rw [hl]; simp
  have hmet : ∀ x, Met (popM m) x ↔ Met m x := fun x => Iff.rfl
  obtain ⟨o1, o2⟩ := oneM_fold ns st (popM m)
  by_cases hs : isSt ns st
  · obtain ⟨e1, e2⟩ := o2 hs
    rw [e2]
    have hst2 : 2 * (st / 2) = st := by have := hs.1; omega
    refine ⟨h.base, h.past, h.len, h.sound, fun x hx => h.opn x ((hin x).2 (.inl (by rw [← hpop]; exact hx))), fun i hi => ?_, fun x hx => ?_⟩
    · simp only [popM, List.mem_append, List.mem_singleton] at hi
      rcases hi with hi | rfl
      · exact h.setsS i hi
      · rw [hst2]; exact ⟨hs, hmt⟩
    · rcases h.compl x hx with hc | ⟨hc1, hc2⟩
      · rcases (hin x).1 hc with hc | rfl
        · left; show x ∈ (popM m).opn; rw [hpop]; exact hc
        · right; exact ⟨by rw [e1]; simp, fun _ => by simp [popM]⟩
      · right; exact ⟨hc1, fun hx => by simp [popM, hc2 hx]⟩
  · have hb' : ∀ y ∈ oneS ns st, y < (popM m).met.length := fun y hy => by
      show y < m.met.length
      rw [h.len]
      exact hb st y (by have := hmt.1; rw [h.len] at this; exact this) hy
    obtain ⟨q1, q2, q3, q4, q5, q6, q7, q8⟩ := fold_is (oneS ns st) (popM m) h.past hb'
    rw [o1 hs]
    refine ⟨fun x hx => (q5 x).2 (.inl (h.base x hx)), q1, q2.trans h.len, fun x hx => ?_, fun x hx => ?_, fun i hi => ?_, fun x hx => ?_⟩
    · rcases (q5 x).1 hx with hx | hx
      · exact h.sound x hx
      · exact hP st x (h.sound st hmt) hx
    · rw [q5]
      rcases q7 x hx with hx | hx
      · exact .inl (h.opn x ((hin x).2 (.inl (by rw [← hpop]; exact hx))))
      · exact .inr hx
    · rw [q3] at hi
      obtain ⟨k1, k2⟩ := h.setsS i hi
      exact ⟨k1, (q5 _).2 (.inl k2)⟩
    · rcases q8 x hx with hx | hx
      · rcases h.compl x hx with hc | ⟨hc1, hc2⟩
        · rcases (hin x).1 hc with hc | rfl
          · exact .inl (q6 x (by rw [hpop]; exact hc))
          · right; exact ⟨fun y hy => (q5 y).2 (.inr hy), fun hx => absurd hx hs⟩
        · right; exact ⟨fun y hy => (q5 y).2 (.inl (hc1 y hy)), fun hx => by rw [q3]; exact hc2 hx⟩
      · exact .inl hx
theorem inv_goOn {ns : List Nod} {P Q : Nat → Prop} (hP : ∀ x y, P x → y ∈ oneS ns x → P y) (hb : ∀ x y, x < 2 * ns.length → y ∈ oneS ns x → y < 2 * ns.length) : ∀ (F : Nat) (m : MS), Inv ns P Q m → Inv ns P Q (goOnM ns F m) := by
  intro F
  induction F with
  | zero => intro m h; exact h
  | succ F ih =>
    intro m h
    rw [goOnM]
    split
    · exact h
    · rename_i st hst
      exact ih _ (inv_one h hst hP hb)
/-- Where one comes is there. -/
theorem altS_lt {ns : List Nod} (hwf : NodWf ns) : ∀ (F : Nat) (k : Int), (k = -1 ∨ ∃ j : Nat, k = (j : Int) ∧ j < ns.length) → ∀ y ∈ altS ns F k, y < 2 * ns.length := by
  intro F
  induction F with
  | zero => intro k _ y hy; cases hy
  | succ F ih =>
    intro k hk y hy
    rw [altS] at hy
    split at hy
    · cases hy
    · rename_i hne
      rcases hk with hk | ⟨j, rfl, hj⟩
      · exact absurd hk hne
      · rw [Int.toNat_natCast] at hy
        rcases List.mem_cons.1 hy with rfl | hy
        · omega
        · obtain ⟨-, hn, -⟩ := hwf j _ (getD_of hj)
          exact ih _ (by
            rcases hn with h | ⟨j2, e, _, hj2⟩
            · exact .inl h
            · exact .inr ⟨j2, e, hj2⟩) y hy
theorem oneS_lt {ns : List Nod} (hwf : NodWf ns) : ∀ x y, x < 2 * ns.length → y ∈ oneS ns x → y < 2 * ns.length := by
  intro x y hx hy
  have hi : x / 2 < ns.length := by omega
  obtain ⟨hk, hn, hu⟩ := hwf _ _ (getD_of hi)
  unfold oneS at hy
  split at hy
  · unfold beginS at hy
    generalize (ns.getD (x / 2) nod0).k = K at hk hy
    split at hy
    · simp at hy; omega
    · split at hy
      · cases hy
      · rename_i h1 h2
        have hlt : x / 2 + 1 < ns.length := by
          rcases hk with h | h
          · exact absurd h (by simp [h1, h2])
          · exact h
        split at hy
        · exact altS_lt hwf _ _ (.inr ⟨x / 2 + 1, by simp, hlt⟩) y hy
        · split at hy
          · simp at hy; omega
          · simp at hy; omega
  · unfold endS at hy
    split at hy
    · cases hy
    · rename_i hne
      obtain ⟨j, ej, hj⟩ := hu.resolve_left hne
      rw [ej, Int.toNat_natCast] at hy
      split at hy
      · simp at hy; omega
      · split at hy
        · split at hy
          · simp at hy; omega
          · rename_i hne2
            obtain ⟨j2, e2, _, hj2⟩ := hn.resolve_left hne2
            rw [e2, Int.toNat_natCast] at hy
            simp at hy; omega
        · simp at hy; omega
end Go.Proofs.Ytngbfjimmdkfeaa

namespace Go.Proofs.Ytngbfjimmdkfeaa
open Go.RowKit

/-- A state that can be reached with these bytes. -/
inductive Rch (ns : List Nod) : List UInt8 → Nat → Prop where
  | init : Rch ns [] 0
  | eps {p : List UInt8} {x y : Nat} (h : Rch ns p x) (hy : y ∈ oneS ns x) : Rch ns p y
  | byte {p : List UInt8} {i : Nat} {c : UInt8} (h : Rch ns p (2 * i)) (hk : (ns.getD i nod0).k = 2) (hc : hasW (ns.getD i nod0).f c.toNat = true) : Rch ns (p ++ [c]) (2 * i + 1)
theorem rch_head {ns : List Nod} {t : List UInt8} {x : Nat} (h : Rch ns t x) : ∀ q r, t = q ++ r → ∃ y, Rch ns q y := by
  induction h with
  | init =>
    intro q r e
    have : q = [] := (List.append_eq_nil_iff.1 e.symm).1
    subst this
    exact ⟨0, .init⟩
  | eps h hy ih => exact ih
  | byte h hk hc ih =>
    rename_i p i c
    intro q r e
    rcases List.eq_nil_or_concat r with e2 | ⟨r', d, e2⟩
    · subst e2
      rw [List.append_nil] at e
      subst e
      exact ⟨_, Rch.byte h hk hc⟩
    · subst e2
      have e3 : p ++ [c] = (q ++ r') ++ [d] := by rw [e]; simp
      exact ih q r' (List.append_inj' e3 rfl).1

/-- What the matcher holds behind these bytes. -/
structure Now (ns : List Nod) (p : List UInt8) (m : MS) : Prop where
  past : Past m
  ok : OkM ns m
  opn : m.opn = []
  reach : ∀ x, Met m x ↔ Rch ns p x
  sets : ∀ i, i ∈ m.sets ↔ (ns.getD i nod0).k = 2 ∧ Met m (2 * i)
theorem isSt_two {ns : List Nod} {i : Nat} : isSt ns (2 * i) ↔ (ns.getD i nod0).k = 2 := by
  unfold isSt
  rw [show 2 * i / 2 = i by omega]
  exact ⟨fun h => h.2, fun h => ⟨by omega, h⟩⟩
/-- At the end of a closure. -/
theorem now_of {ns : List Nod} (hwf : NodWf ns) (hn : 0 < ns.length) {p : List UInt8} {Q : Nat → Prop} {m : MS} (h : Inv ns (Rch ns p) Q m) (hok : OkM ns m) (ho : m.opn = []) (hQ : ∀ x, Rch ns p x → (∀ y z, Met m y → z ∈ oneS ns y → Met m z) → (∀ y, Q y → Met m y) → Met m x) : Now ns p m := by
  have hcl : ∀ x, Met m x → (∀ y ∈ oneS ns x, Met m y) ∧ (isSt ns x → x / 2 ∈ m.sets) := fun x hx => by
    rcases h.compl x hx with hc | hc
    · rw [ho] at hc; cases hc
    · exact hc
  refine ⟨h.past, hok, ho, fun x => ⟨h.sound x, fun hx => hQ x hx (fun y z hy hz => (hcl y hy).1 z hz) h.base⟩, fun i => ⟨fun hi => ?_, fun hi => ?_⟩⟩
  · obtain ⟨k1, k2⟩ := h.setsS i hi
    exact ⟨isSt_two.1 k1, k2⟩
  · have := (hcl _ hi.2).2 (isSt_two.2 hi.1)
    rwa [show 2 * i / 2 = i by omega] at this
theorem now_init {ns : List Nod} (hwf : NodWf ns) (hn : 0 < ns.length) : Now ns [] (initM ns) := by
  obtain ⟨i1, i2, i3⟩ := initM_ok hwf hn
  have hp0 : Past (ms0 (2 * ns.length)) := fun x => by
    unfold ms0
    simp only [List.getD_eq_getElem?_getD]
    cases hx : (List.replicate (2 * ns.length) 0)[x]? with
    | none => simp
    | some v => have := (List.mem_replicate.1 (List.mem_of_getElem? hx)).2; simp [this]
  have hm0 : ∀ x, ¬ Met (ms0 (2 * ns.length)) x := fun x hx => by
    have h1 := hx.1
    have h2 := hx.2
    unfold ms0 at h1 h2
    simp only [List.length_replicate] at h1
    simp only [List.getD_eq_getElem?_getD, List.getElem?_replicate, h1, if_true] at h2
    simp at h2
  obtain ⟨p1, p2, p3, p4, p5⟩ := meet_is (st := 0) hp0 (by unfold ms0; simp; omega)
  have hi : Inv ns (Rch ns []) (fun x => x = 0) (meetP 0 (ms0 (2 * ns.length))) := by
    refine ⟨fun x hx => (p2 x).2 (.inr hx), p1, by rw [meetP_len]; simp [ms0], fun x hx => ?_, fun x hx => ?_, fun i hi => ?_, fun x hx => ?_⟩
    · rcases (p2 x).1 hx with h | rfl
      · exact absurd h (hm0 x)
      · exact .init
    · rcases p4 x hx with h | rfl
      · simp [ms0] at h
      · exact (p2 0).2 (.inr rfl)
    · rw [meetP_sets] at hi; simp [ms0] at hi
    · rcases p5 x hx with h | h
      · exact absurd h (hm0 x)
      · exact .inl h
  have hg := inv_goOn (fun x y hx hy => Rch.eps hx hy) (oneS_lt hwf) (2 * ns.length) _ hi
  refine now_of hwf hn hg i1 i2 (fun x hx hcl hb => ?_)
  generalize hq : ([] : List UInt8) = q at hx
  induction hx with
  | init => exact hb 0 rfl
  | eps h hy ih => exact hcl _ _ (ih hq) hy
  | byte _ _ _ _ => simp at hq
theorem hitM_fold (ns : List Nod) (c : Nat) : ∀ (l : List Nat) (m : MS), hitM ns c l m = foldMeet ((l.filter (fun i => hasW (ns.getD i nod0).f c)).map (fun i => 2 * i + 1)) m := by
  intro l
  induction l with
  | nil => intro m; rfl
  | cons i r ih =>
    intro m
    rw [hitM, ih, List.filter_cons]
    split <;> rfl
theorem now_step {ns : List Nod} (hwf : NodWf ns) (hn : 0 < ns.length) {p : List UInt8} {m : MS} (h : Now ns p m) (c : UInt8) : Now ns (p ++ [c]) (stepM ns c.toNat m) := by
  obtain ⟨s1, s2, s3⟩ := stepM_ok hwf c.toNat h.ok h.opn
  have hp0 : Past { m with now := m.now + 1 } := fun x => Nat.le_succ_of_le (h.past x)
  have hm0 : ∀ x, ¬ Met { m with now := m.now + 1 } x := fun x hx => by
    have h1 := h.past x
    have h2 : m.met.getD x 0 = m.now + 1 := hx.2
    omega
  obtain ⟨L, hL⟩ : ∃ L, L = (m.sets.filter (fun i => hasW (ns.getD i nod0).f c.toNat)).map (fun i => 2 * i + 1) := ⟨_, rfl⟩
  have hLm : ∀ x, x ∈ L ↔ ∃ i, i ∈ m.sets ∧ hasW (ns.getD i nod0).f c.toNat = true ∧ 2 * i + 1 = x := fun x => by
    rw [hL]; simp [List.mem_map, List.mem_filter, and_assoc]
  have hLlt : ∀ x ∈ L, x < m.met.length := fun x hx => by
    obtain ⟨i, hi, _, rfl⟩ := (hLm x).1 hx
    have := h.ok.sets i hi
    have := h.ok.len
    omega
  obtain ⟨q1, q2, q3, q4, q5, q6, q7, q8⟩ := fold_is L { m with now := m.now + 1 } hp0 hLlt
  have e : stepM ns c.toNat m = goOnM ns (2 * ns.length) { foldMeet L { m with now := m.now + 1 } with sets := [] } := by
    unfold stepM
    rw [hitM_fold, hL]
  have hi : Inv ns (Rch ns (p ++ [c])) (fun x => x ∈ L) { foldMeet L { m with now := m.now + 1 } with sets := [] } := by
    refine ⟨fun x hx => (q5 x).2 (.inr hx), q1, q2.trans h.ok.len, fun x hx => ?_, fun x hx => ?_, fun i hi => (by cases hi), fun x hx => ?_⟩
    · rcases (q5 x).1 hx with hx | hx
      · exact absurd hx (hm0 x)
      · obtain ⟨i, hi, hc, rfl⟩ := (hLm x).1 hx
        obtain ⟨k1, k2⟩ := (h.sets i).1 hi
        exact .byte ((h.reach _).1 k2) k1 hc
    · rcases q7 x hx with hx | hx
      · rw [show ({ m with now := m.now + 1 } : MS).opn = [] from h.opn] at hx; cases hx
      · exact (q5 x).2 (.inr hx)
    · rcases q8 x hx with hx | hx
      · exact absurd hx (hm0 x)
      · exact .inl hx
  have hg := inv_goOn (fun x y hx hy => Rch.eps hx hy) (oneS_lt hwf) (2 * ns.length) _ hi
  rw [← e] at hg
  refine now_of hwf hn hg s1 s2 (fun x hx hcl hb => ?_)
  generalize hq : p ++ [c] = q at hx
  induction hx with
  | init => simp at hq
  | eps h hy ih => exact hcl _ _ (ih hq) hy
  | byte h2 hk hc _ =>
    obtain ⟨e1, e2⟩ := List.append_inj' hq rfl
    subst e1
    cases e2
    exact hb _ ((hLm _).2 ⟨_, (h.sets _).2 ⟨hk, (h.reach _).2 h2⟩, hc, rfl⟩)
/-- The matcher's answer. -/
theorem loop_is {ns : List Nod} (hwf : NodWf ns) (hn : 0 < ns.length) : ∀ (s p : List UInt8) (m : MS), Now ns p m → (loopM ns s m = true ↔ Rch ns (p ++ s) 1) := by
  intro s
  induction s with
  | nil =>
    intro p m h
    rw [List.append_nil, ← h.reach 1, loopM, decide_eq_true_eq]
    have := h.ok.len
    exact ⟨fun e => ⟨by omega, e⟩, fun e => e.2⟩
  | cons c r ih =>
    intro p m h
    have e : p ++ c :: r = (p ++ [c]) ++ r := by simp
    by_cases h0 : m.sets.length = 0
    · rw [loopM, if_pos h0]
      refine ⟨fun h => (by cases h), fun hr => ?_⟩
      exfalso
      obtain ⟨y, hy⟩ := rch_head hr (p ++ [c]) r e
      generalize hq : p ++ [c] = q at hy
      induction hy with
      | init => simp at hq
      | eps _ _ ih => exact ih hq
      | byte h2 hk hc _ =>
        obtain ⟨e1, e2⟩ := List.append_inj' hq rfl
        subst e1
        have := (h.sets _).2 ⟨hk, (h.reach _).2 h2⟩
        rw [List.eq_nil_of_length_eq_zero h0] at this
        cases this
    · rw [loopM_cons h0, ih _ _ (now_step hwf hn h c), e]
end Go.Proofs.Ytngbfjimmdkfeaa

namespace Go.Proofs.Ytngbfjimmdkfeaa
open Go.RowKit

/-- These expressions' nodes lie from a place on, parts of the node up. -/
def Lay (ns : List Nod) : Fo → Nat → Int → Prop
  | .nil, _, _ => True
  | .cons h kids rest, b, up => ns[b]? = some ⟨h.k, fS h.set, up, if rest.len = 0 then -1 else ((b + 1 + kids.size : Nat) : Int)⟩ ∧ Lay ns kids (b + 1) (b : Int) ∧ Lay ns rest (b + 1 + kids.size) up
theorem Lay.congr {ns ns' : List Nod} : ∀ (f : Fo) (b : Nat) (up : Int), (∀ i, b ≤ i → i < b + f.size → ns'[i]? = ns[i]?) → Lay ns f b up → Lay ns' f b up := by
  intro f
  induction f with
  | nil => intro b up _ _; trivial
  | cons h kids rest ihk ihr =>
    rintro b up hc ⟨h1, h2, h3⟩
    simp only [Fo.size] at hc
    exact ⟨(hc b (Nat.le_refl _) (by omega)).trans h1, ihk _ _ (fun i h4 h5 => hc i (by omega) (by omega)) h2, ihr _ _ (fun i h4 h5 => hc i (by omega) (by omega)) h3⟩

/-- What a list's nodes do to those so far. -/
structure Fl (f : Fo) (d : Nat) (s s' : List Nod × List Nat) : Prop where
  len : s'.1.length = s.1.length + f.size
  old : ∀ i, i < s.1.length → s'.1[i]? = if f.len ≠ 0 ∧ d ≤ s.2.length ∧ s.2.getD (d - 1) 0 = i then some { s.1.getD i nod0 with next := (s.1.length : Int) } else s.1[i]?
  lay : Lay s'.1 f s.1.length (upN s.2 d)
  tak : s'.2.take (d - 1) = s.2.take (d - 1)
  emp : f.len = 0 → s' = s
  dep : f.len ≠ 0 → d ≤ s'.2.length
theorem take_getD {l l' : List Nat} {k i : Nat} (h : l'.take k = l.take k) (hi : i < k) : l'.getD i 0 = l.getD i 0 := by
  have h1 : (l'.take k)[i]? = (l.take k)[i]? := by rw [h]
  rw [List.getElem?_take_of_lt hi, List.getElem?_take_of_lt hi] at h1
  rw [List.getD_eq_getElem?_getD, List.getD_eq_getElem?_getD, h1]
theorem fold_lay : ∀ (f : Fo) (d : Nat) (s : List Nod × List Nat), 1 ≤ d → d ≤ s.2.length + 1 → Fl f d s ((f.pre d).foldl nodStep s) := by
  intro f
  induction f with
  | nil =>
    intro d s _ _
    exact ⟨rfl, fun i _ => by simp [Fo.len, Fo.pre], trivial, rfl, fun _ => rfl, fun h => absurd rfl h⟩
  | cons h kids rest ihk ihr =>
    intro d s hd1 hd
    obtain ⟨s1, hs1⟩ : ∃ s1, nodStep s ⟨d, h, kids.len⟩ = s1 := ⟨_, rfl⟩
    have e1 : s1.1 = ahead s d ++ [⟨h.k, fS h.set, upN s.2 d, -1⟩] := by rw [← hs1]; rfl
    have e2 : s1.2 = s.2.take (d - 1) ++ [s.1.length] := by rw [← hs1]; rfl
    have l1 : s1.1.length = s.1.length + 1 := by rw [← hs1, nodStep_length]
    have l2 : s1.2.length = d := by rw [e2]; simp; omega
    have k := ihk (d + 1) s1 (by omega) (by omega)
    obtain ⟨s2, hs2⟩ : ∃ s2, (kids.pre (d + 1)).foldl nodStep s1 = s2 := ⟨_, rfl⟩
    rw [hs2] at k
    have t2 : s2.2.take d = s1.2 := by
      have := k.tak
      rw [Nat.add_sub_cancel] at this
      rw [this, List.take_of_length_le (by omega)]
    have d2 : d ≤ s2.2.length := by
      have := congrArg List.length t2
      rw [List.length_take, l2] at this
      omega
    have r := ihr d s2 hd1 (by omega)
    have hs3 : ((Fo.cons h kids rest).pre d).foldl nodStep s = (rest.pre d).foldl nodStep s2 := by
      rw [Fo.pre, List.foldl_cons, List.foldl_append, hs1, hs2]
    rw [hs3]
    obtain ⟨s3, hs3'⟩ : ∃ s3, (rest.pre d).foldl nodStep s2 = s3 := ⟨_, rfl⟩
    rw [hs3'] at r ⊢
    have g1 : s1.2.getD (d - 1) 0 = s.1.length := by
      rw [e2, List.getD_eq_getElem?_getD, List.getElem?_append_right (by simp; omega)]
      have : d - 1 - (s.2.take (d - 1)).length = 0 := by simp; omega
      rw [this]; rfl
    have g2 : s2.2.getD (d - 1) 0 = s.1.length := by
      have := take_getD (l := s1.2) (l' := s2.2) (k := d) (i := d - 1) (by rw [t2, List.take_of_length_le (by omega)]) (by omega)
      rw [this, g1]
    have l3 : s2.1.length = s.1.length + 1 + kids.size := by rw [k.len, l1]
    have o2 : ∀ i, i < s.1.length + 1 → s2.1[i]? = s1.1[i]? := fun i hi => by
      rw [k.old i (by omega), if_neg (by omega)]
    have o3 : ∀ i, i < s2.1.length → i ≠ s.1.length → s3.1[i]? = s2.1[i]? := fun i hi hne => by
      rw [r.old i hi, if_neg (by rintro ⟨_, _, h⟩; exact hne (by rw [← h, g2]))]
    have a1 : ∀ i, i < s.1.length → s1.1[i]? = (ahead s d)[i]? := fun i hi => by
      rw [e1, List.getElem?_append_left (by rw [ahead_length]; exact hi)]
    have u2 : upN s2.2 d = upN s.2 d := by
      unfold upN
      split
      · rename_i h1
        have h2 := take_getD (l := s1.2) (l' := s2.2) (k := d) (i := d - 2) (by rw [t2, List.take_of_length_le (by omega)]) (by omega)
        have h3 : s1.2.getD (d - 2) 0 = s.2.getD (d - 2) 0 := by
          rw [e2, List.getD_eq_getElem?_getD, List.getElem?_append_left (by simp; omega), List.getElem?_take_of_lt (by omega), List.getD_eq_getElem?_getD]
        rw [h2, h3]
      · rfl
    have n1 : s1.1[s.1.length]? = some ⟨h.k, fS h.set, upN s.2 d, -1⟩ := by
      rw [e1, List.getElem?_append_right (by rw [ahead_length]; exact Nat.le_refl _), ahead_length, Nat.sub_self]; rfl
    refine ⟨by rw [r.len, l3]; simp only [Fo.size]; omega, fun i hi => ?_, ⟨?_, ?_, ?_⟩, ?_, fun h => (by simp [Fo.len] at h), fun _ => ?_⟩
    · rw [o3 i (by omega) (by omega), o2 i (by omega), a1 i hi]
      unfold ahead
      by_cases hdl : d ≤ s.2.length
      · rw [if_pos hdl]
        unfold setNext
        rw [List.getElem?_set]
        by_cases he : s.2.getD (d - 1) 0 = i
        · rw [if_pos he, he, if_pos hi, if_pos ⟨by simp [Fo.len], hdl, rfl⟩]
        · rw [if_neg he, if_neg (fun h => he h.2.2)]
      · rw [if_neg hdl, if_neg (fun h => hdl h.2.1)]
    · rw [r.old s.1.length (by omega), g2]
      have hg : s2.1[s.1.length]? = some ⟨h.k, fS h.set, upN s.2 d, -1⟩ := (o2 _ (by omega)).trans n1
      by_cases hr : rest.len = 0
      · rw [if_neg (fun h => h.1 hr), if_pos hr]; exact hg
      · rw [if_pos ⟨hr, d2, rfl⟩, if_neg hr, List.getD_eq_getElem?_getD, hg, l3]; rfl
    · refine Lay.congr kids _ _ (fun i h1 h2 => o3 i (by omega) (by omega)) ?_
      have := k.lay
      rw [l1] at this
      have hu : upN s1.2 (d + 1) = (s.1.length : Int) := by
        unfold upN
        rw [if_pos (by omega), show d + 1 - 2 = d - 1 by omega, g1]
      rw [hu] at this
      exact this
    · have := r.lay
      rw [l3, u2] at this
      exact this
    · rw [r.tak]
      have : s2.2.take (d - 1) = (s2.2.take d).take (d - 1) := by rw [List.take_take, Nat.min_eq_left (by omega)]
      rw [this, t2, e2, List.take_append_of_le_length (by simp; omega), List.take_take, Nat.min_self]
    · by_cases hr : rest.len = 0
      · rw [r.emp hr]; exact d2
      · exact r.dep hr
theorem nodes_lay (hh : Hd) (kids : Fo) : Lay (nodsE hh kids) (.cons hh kids .nil) 0 (-1) := by
  have := (fold_lay (.cons hh kids .nil) 1 ([], []) (Nat.le_refl _) (by simp)).lay
  exact this
end Go.Proofs.Ytngbfjimmdkfeaa

