/- Texts of layer 2 joined: Qa Qb. -/
import Derived.Test.YtpbceejjkdmclaaJJ
import Derived.Test.YtpbceejjkdmclaaJG
import Derived.Test.YtpbceejjkdmclaaJK
set_option linter.unusedVariables false
set_option linter.unusedSimpArgs false
/- Reading what was written: bytes, items, sets. No walk. -/
namespace Go.Proofs.Ytpbceejjkdmclaa
open Go.RowKit

/-! ### A byte -/
theorem digitP_app (l r : List UInt8) (c : UInt8) (l' : List UInt8) (h : digitP l = .ok c l') : digitP (l ++ r) = .ok c (l' ++ r) := by
  cases l with
  | nil => simp [digitP] at h
  | cons x l =>
    simp only [digitP, List.cons_append] at h ⊢
    cases hx : hexV x with
    | none => rw [hx] at h; cases h
    | some v => rw [hx] at h; simp only at h ⊢; injection h with h1 h2; rw [h1, h2]
theorem escP_app (l r : List UInt8) (c : UInt8) (l' : List UInt8) (h : escP l = .ok c l') : escP (l ++ r) = .ok c (l' ++ r) := by
  cases l with
  | nil => simp [escP] at h
  | cons x l =>
    simp only [escP, List.cons_append] at h ⊢
    split at h
    · rename_i e; rw [if_pos e]; injection h with h1 h2; rw [h1, h2]
    rename_i n1
    rw [if_neg n1]
    split at h
    · rename_i e; rw [if_pos e]; injection h with h1 h2; rw [h1, h2]
    rename_i n2
    rw [if_neg n2]
    split at h
    · rename_i e; rw [if_pos e]; injection h with h1 h2; rw [h1, h2]
    rename_i n3
    rw [if_neg n3]
    split at h
    · rename_i e
      rw [if_pos e]
      cases h1 : digitP l with
      | bad b => rw [h1] at h; cases h
      | ok a r1 =>
        rw [h1] at h
        simp only at h
        rw [digitP_app l r a r1 h1]
        simp only
        cases h2 : digitP r1 with
        | bad b => rw [h2] at h; cases h
        | ok a2 r2 =>
          rw [h2] at h
          simp only at h
          rw [digitP_app r1 r a2 r2 h2]
          simp only
          injection h with h1 h2
          rw [h1, h2]
    · rename_i n4
      rw [if_neg n4]
      split at h
      · rename_i e; rw [if_pos e]; injection h with h1 h2; rw [h1, h2]
      · cases h
theorem letP_app (b l r : List UInt8) (c : UInt8) (l' : List UInt8) (h : letP b l = .ok c l') : letP b (l ++ r) = .ok c (l' ++ r) := by
  cases l with
  | nil => simp [letP] at h
  | cons x l =>
    simp only [letP, List.cons_append] at h ⊢
    split at h
    · rename_i e; rw [if_pos e]; exact escP_app _ _ _ _ h
    · rename_i n1
      rw [if_neg n1]
      split at h
      · cases h
      · rename_i n2; rw [if_neg n2]; injection h with h1 h2; rw [h1, h2]
/-- What reading a byte's text comes to, told as a Bool. -/
def isOk (x : Rd UInt8) (c : UInt8) : Bool := match x with
  | .ok v r => v == c && r.isEmpty
  | .bad _ => false
theorem isOk_eq {x : Rd UInt8} {c : UInt8} (h : isOk x c = true) : x = .ok c [] := by
  cases x with
  | bad _ => cases h
  | ok v r =>
    simp only [isOk, Bool.and_eq_true, beq_iff_eq, List.isEmpty_iff] at h
    rw [h.1, h.2]
theorem all_bytes (p : UInt8 → Bool) (h : (List.range 256).all (fun n => p (UInt8.ofNat n)) = true) (c : UInt8) : p c = true := by
  have := List.all_eq_true.1 h c.toNat (List.mem_range.2 c.toNat_lt)
  simpa using this
theorem byteT_spec (c : UInt8) : isOk (letP specials (byteT c)) c = true := all_bytes (fun c => isOk (letP specials (byteT c)) c) (by decide +kernel) c
theorem byteT_outs (c : UInt8) : isOk (letP outs (byteT c)) c = true := all_bytes (fun c => isOk (letP outs (byteT c)) c) (by decide +kernel) c
theorem letP_byteT (c : UInt8) (r : List UInt8) : letP specials (byteT c ++ r) = .ok c r := by simpa using letP_app specials (byteT c) r c [] (isOk_eq (byteT_spec c))
theorem letP_outs (c : UInt8) (r : List UInt8) : letP outs (byteT c ++ r) = .ok c r := by simpa using letP_app outs (byteT c) r c [] (isOk_eq (byteT_outs c))
/-- The first byte of a byte's text is none of these. -/
def headOk (l : List UInt8) : Bool := match l with
  | [] => false
  | x :: _ => !(x == 45 || x == 93 || x == 94 || x == 91 || x == 46 || x == 40 || x == 41 || x == 124 || x == 42 || x == 43 || x == 63)
theorem byteT_head (c : UInt8) : headOk (byteT c) = true := all_bytes (fun c => headOk (byteT c)) (by decide +kernel) c
theorem byteT_cons (c : UInt8) : ∃ x r, byteT c = x :: r ∧ (x ≠ 45 ∧ x ≠ 93 ∧ x ≠ 94 ∧ x ≠ 91 ∧ x ≠ 46 ∧ x ≠ 40 ∧ x ≠ 41 ∧ x ≠ 124 ∧ x ≠ 42 ∧ x ≠ 43 ∧ x ≠ 63) := by
  have := byteT_head c
  cases h : byteT c with
  | nil => rw [h] at this; cases this
  | cons x r =>
    rw [h] at this
    simp only [headOk, Bool.not_eq_true', Bool.or_eq_false_iff, beq_eq_false_iff_ne] at this
    obtain ⟨⟨⟨⟨⟨⟨⟨⟨⟨⟨h1, h2⟩, h3⟩, h4⟩, h5⟩, h6⟩, h7⟩, h8⟩, h9⟩, h10⟩, h11⟩ := this
    exact ⟨x, r, rfl, h1, h2, h3, h4, h5, h6, h7, h8, h9, h10, h11⟩
theorem headIs_byteT (c : UInt8) (r : List UInt8) (k : UInt8) (hk : k = 45 ∨ k = 93 ∨ k = 94 ∨ k = 91 ∨ k = 46 ∨ k = 40 ∨ k = 41 ∨ k = 124 ∨ k = 42 ∨ k = 43 ∨ k = 63) : headIs k (byteT c ++ r) = false := by
  obtain ⟨x, t, e, h1, h2, h3, h4, h5, h6, h7, h8, h9, h10, h11⟩ := byteT_cons c
  rw [e]
  simp only [List.cons_append, headIs, beq_eq_false_iff_ne]
  rcases hk with rfl | rfl | rfl | rfl | rfl | rfl | rfl | rfl | rfl | rfl | rfl <;> assumption

/-! ### Spans in order are told by their bytes -/
def ordP : List Sp → Prop
  | [] => True
  | s :: l => s.lo.toNat ≤ s.hi.toNat ∧ (∀ t ∈ l, s.hi.toNat + 2 ≤ t.lo.toNat) ∧ ordP l
theorem ordP_snoc (l : List Sp) (s : Sp) : ordP l → s.lo.toNat ≤ s.hi.toNat → (∀ t ∈ l, t.hi.toNat + 2 ≤ s.lo.toNat) → ordP (l ++ [s]) := by
  induction l with
  | nil => intro _ h _; exact ⟨h, fun t ht => by simp at ht, trivial⟩
  | cons x l ih =>
    rintro ⟨h1, h2, h3⟩ h4 h5
    refine ⟨h1, fun t ht => ?_, ih h3 h4 (fun t ht => h5 t (List.mem_cons_of_mem _ ht))⟩
    rcases List.mem_append.1 ht with ht | ht
    · exact h2 t ht
    · obtain rfl : t = s := by simpa using ht
      exact h5 x (List.mem_cons_self ..)
theorem ordP_last (m : List Sp) (p : Sp) : ordP (m ++ [p]) → ∀ t ∈ m ++ [p], t.hi.toNat ≤ p.hi.toNat := by
  induction m with
  | nil => intro _ t ht; obtain rfl : t = p := by simpa using ht
           exact Nat.le_refl _
  | cons x m ih =>
    rintro ⟨h1, h2, h3⟩ t ht
    rcases List.mem_cons.1 ht with rfl | ht
    · have := h2 p (by simp)
      have := ih h3 p (by simp)
      have h4 : p.lo.toNat ≤ p.hi.toNat := by
        clear ih h1 h2 this ht
        induction m with
        | nil => exact h3.1
        | cons y m ih2 => exact ih2 h3.2.2
      omega
    · exact ih h3 t ht
theorem ordB_ordP (l : List Sp) : ordB l = true → ordP l := by
  intro h
  obtain ⟨n, hn⟩ : ∃ n, n = l.length := ⟨_, rfl⟩
  induction n generalizing l with
  | zero => rw [List.length_eq_zero_iff.1 hn.symm]; trivial
  | succ n ih =>
    rcases List.eq_nil_or_concat l with e | ⟨m, s, e⟩
    · rw [e]; trivial
    · have e' : l = m ++ [s] := by simpa using e
      subst e'
      rw [ordB_snoc] at h
      simp only [Bool.and_eq_true, decide_eq_true_eq] at h
      obtain ⟨h1, h2, h3⟩ := h
      have hm := ih m h1 (by simp at hn; omega)
      refine ordP_snoc m s hm h2 ?_
      rcases List.eq_nil_or_concat m with e | ⟨m', q, e⟩
      · rw [e]; intro t ht; simp at ht
      · have e' : m = m' ++ [q] := by simpa using e
        subst e'
        unfold afterOk at h3
        simp only [List.getLast?_append, List.getLast?_singleton, Option.some_or, decide_eq_true_eq] at h3
        intro t ht
        have := ordP_last m' q hm t ht
        omega
theorem inSp_cons (s : Sp) (l : List Sp) (c : Nat) : inSp (s :: l) c = (decide (s.lo.toNat ≤ c ∧ c ≤ s.hi.toNat) || inSp l c) := by simp [inSp]
theorem inSp_low {l : List Sp} {b c : Nat} (h : ∀ t ∈ l, b ≤ t.lo.toNat) (hc : c < b) : inSp l c = false := by
  unfold inSp
  rw [List.any_eq_false]
  intro t ht
  have := h t ht
  simp; omega
theorem inSp_some {l : List Sp} {c : Nat} (h : inSp l c = true) : ∃ t ∈ l, t.lo.toNat ≤ c ∧ c ≤ t.hi.toNat := by
  unfold inSp at h
  rw [List.any_eq_true] at h
  obtain ⟨t, ht, hc⟩ := h
  exact ⟨t, ht, of_decide_eq_true hc⟩
theorem ord_ext : ∀ (l m : List Sp), ordP l → ordP m → (∀ c, inSp l c = inSp m c) → l = m := by
  intro l
  induction l with
  | nil =>
    intro m _ hm h
    cases m with
    | nil => rfl
    | cons t m =>
      have := h t.lo.toNat
      rw [inSp_cons, decide_eq_true ⟨Nat.le_refl _, hm.1⟩] at this
      simp [inSp] at this
  | cons s l ih =>
    rintro m ⟨s1, s2, s3⟩ hm h
    cases m with
    | nil =>
      have := h s.lo.toNat
      rw [inSp_cons, decide_eq_true ⟨Nat.le_refl _, s1⟩] at this
      simp [inSp] at this
    | cons t m =>
      obtain ⟨t1, t2, t3⟩ := hm
      have hlo : s.lo.toNat = t.lo.toNat := by
        have h1 := h s.lo.toNat
        rw [inSp_cons, decide_eq_true ⟨Nat.le_refl _, s1⟩, Bool.true_or] at h1
        obtain ⟨u, hu, hu1, _⟩ := inSp_some h1.symm
        have h2 := h t.lo.toNat
        rw [inSp_cons t, decide_eq_true ⟨Nat.le_refl _, t1⟩, Bool.true_or] at h2
        obtain ⟨v, hv, hv1, _⟩ := inSp_some h2
        have : t.lo.toNat ≤ u.lo.toNat := by
          rcases List.mem_cons.1 hu with rfl | hu
          · exact Nat.le_refl _
          · have := t2 u hu; omega
        have : s.lo.toNat ≤ v.lo.toNat := by
          rcases List.mem_cons.1 hv with rfl | hv
          · exact Nat.le_refl _
          · have := s2 v hv; omega
        omega
      have hhi : s.hi.toNat = t.hi.toNat := by
        rcases Nat.lt_trichotomy s.hi.toNat t.hi.toNat with h1 | h1 | h1
        · exfalso
          have h2 := h (s.hi.toNat + 1)
          rw [inSp_cons, inSp_cons t, decide_eq_false (by omega), decide_eq_true (by omega), inSp_low s2 (by omega)] at h2
          simp at h2
        · exact h1
        · exfalso
          have h2 := h (t.hi.toNat + 1)
          rw [inSp_cons, inSp_cons t, decide_eq_true (by omega), decide_eq_false (by omega), inSp_low t2 (by omega)] at h2
          simp at h2
      have hst : s = t := by
        cases s; cases t
        simp only at hlo hhi
        rw [UInt8.toNat_inj.1 hlo, UInt8.toNat_inj.1 hhi]
      subst hst
      congr 1
      refine ih m s3 t3 (fun c => ?_)
      by_cases hc : c ≤ s.hi.toNat + 1
      · rw [inSp_low s2 (by omega), inSp_low t2 (by omega)]
      · have := h c
        rw [inSp_cons, inSp_cons, decide_eq_false (by omega), Bool.false_or, Bool.false_or] at this
        exact this
theorem spP_self {l : List Sp} (h : ordB l = true) : spP (inSp l) 256 = l :=
  ord_ext _ _ (ordB_ordP _ (spP_ord l)) (ordB_ordP _ h) (spP_mem' l)

/-! ### Items and sets -/
def itTx (t : Sp) : List UInt8 := byteT t.lo ++ (if t.lo.toNat < t.hi.toNat then 45 :: byteT t.hi else [])
def its1 (s : Sp) : List Sp := if s.lo.toNat + 1 = s.hi.toNat then [⟨s.lo, s.lo⟩, ⟨s.hi, s.hi⟩] else [s]
def its (l : List Sp) : List Sp := l.flatMap its1
theorem spanT_its (s : Sp) (h : s.lo.toNat ≤ s.hi.toNat) : spanT s = (its1 s).flatMap itTx := by
  unfold spanT its1
  by_cases e : s.lo.toNat + 1 = s.hi.toNat
  · rw [if_pos e, if_neg (by omega), if_pos (by omega)]
    simp [itTx]
  · rw [if_neg e]
    by_cases e2 : s.lo.toNat < s.hi.toNat
    · rw [if_pos (by omega), if_pos e2]; simp [itTx, e2]
    · rw [if_neg (by omega), if_neg e2]; simp [itTx, e2]
theorem spansT_its (l : List Sp) (h : ∀ s ∈ l, s.lo.toNat ≤ s.hi.toNat) : spansT l = (its l).flatMap itTx := by
  induction l with
  | nil => rfl
  | cons s l ih =>
    have := ih (fun t ht => h t (List.mem_cons_of_mem _ ht))
    unfold spansT its at this ⊢
    simp only [List.map_cons, List.flatten_cons, List.flatMap_cons, List.flatMap_append]
    rw [spanT_its s (h s (List.mem_cons_self ..)), this]
theorem its_le (l : List Sp) (h : ∀ s ∈ l, s.lo.toNat ≤ s.hi.toNat) : ∀ t ∈ its l, t.lo.toNat ≤ t.hi.toNat := by
  intro t ht
  unfold its at ht
  obtain ⟨s, hs, ht⟩ := List.mem_flatMap.1 ht
  unfold its1 at ht
  split at ht
  · simp at ht; rcases ht with rfl | rfl <;> exact Nat.le_refl _
  · obtain rfl : t = s := by simpa using ht
    exact h t hs
theorem inSp_its1 (s : Sp) (h : s.lo.toNat ≤ s.hi.toNat) (c : Nat) : inSp (its1 s) c = decide (s.lo.toNat ≤ c ∧ c ≤ s.hi.toNat) := by
  unfold its1
  split
  · rw [inSp_cons, inSp_cons]
    simp only [inSp, List.any_nil, Bool.or_false]
    rw [Bool.eq_iff_iff]; simp; omega
  · simp [inSp]
theorem inSp_its (l : List Sp) (h : ∀ s ∈ l, s.lo.toNat ≤ s.hi.toNat) (c : Nat) : inSp (its l) c = inSp l c := by
  induction l with
  | nil => rfl
  | cons s l ih =>
    have h1 := ih (fun t ht => h t (List.mem_cons_of_mem _ ht))
    have h2 := inSp_its1 s (h s (List.mem_cons_self ..)) c
    rw [inSp_cons, ← h1, ← h2]
    unfold its inSp
    simp [List.flatMap_cons, List.any_append]
theorem itemP_it (t : Sp) (h : t.lo.toNat ≤ t.hi.toNat) (r : List UInt8) (hr : headIs 45 r = false) : itemP (itTx t ++ r) = .ok t r := by
  unfold itemP itTx
  by_cases e : t.lo.toNat < t.hi.toNat
  · rw [if_pos e, List.append_assoc, letP_byteT]
    simp only [List.cons_append, headIs, beq_self_eq_true, if_true, List.tail_cons]
    rw [letP_byteT]
    simp only
    rw [if_neg (by omega)]
  · rw [if_neg e, List.append_nil, letP_byteT]
    simp only
    rw [if_neg (by rw [hr]; simp)]
    have : t.hi = t.lo := UInt8.toNat_inj.1 (by omega)
    cases t
    simp only at this
    rw [this]
theorem itTx_head (t : Sp) (r : List UInt8) (k : UInt8) (hk : k = 45 ∨ k = 93 ∨ k = 94) : headIs k (itTx t ++ r) = false := by
  unfold itTx
  rw [List.append_assoc]
  exact headIs_byteT _ _ k (by rcases hk with rfl | rfl | rfl <;> simp)
theorem its_head (l : List Sp) (r : List UInt8) : headIs 45 (l.flatMap itTx ++ 93 :: r) = false := by
  cases l with
  | nil => rfl
  | cons t l => rw [List.flatMap_cons, List.append_assoc]; exact itTx_head t _ 45 (by simp)
theorem itTx_pos (t : Sp) : 1 ≤ (itTx t).length := by
  obtain ⟨x, r, e, _⟩ := byteT_cons t.lo
  unfold itTx
  rw [e]; simp
theorem itemsP_its : ∀ (l : List Sp) (F : Nat) (acc : List Sp) (r : List UInt8), (∀ t ∈ l, t.lo.toNat ≤ t.hi.toNat) → (l.flatMap itTx).length + 1 ≤ F → itemsP F (l.flatMap itTx ++ 93 :: r) acc = .ok (acc ++ l) r := by
  intro l
  induction l with
  | nil =>
    intro F acc r _ hF
    obtain ⟨F, rfl⟩ : ∃ G, F = G + 1 := ⟨F - 1, by omega⟩
    simp [itemsP, headIs]
  | cons t l ih =>
    intro F acc r hl hF
    obtain ⟨F, rfl⟩ : ∃ G, F = G + 1 := ⟨F - 1, by omega⟩
    have hp := itTx_pos t
    rw [List.flatMap_cons, List.length_append] at hF
    rw [List.flatMap_cons, List.append_assoc, itemsP, if_neg (by rw [itTx_head t _ 93 (by simp)]; simp), itemP_it t (hl t (List.mem_cons_self ..)) _ (its_head l r), Rd.bind_ok, ih F _ r (fun u hu => hl u (List.mem_cons_of_mem _ hu)) (by omega)]
    simp
theorem classP_spans (l : List Sp) (hne : l ≠ []) (hle : ∀ s ∈ l, s.lo.toNat ≤ s.hi.toNat) (r : List UInt8) : classP (spansT l ++ 93 :: r) = .ok (its l, false) r := by
  have hle2 := its_le l hle
  rw [spansT_its l hle]
  cases hi : its l with
  | nil =>
    exfalso
    cases l with
    | nil => exact hne rfl
    | cons s l =>
      unfold its its1 at hi
      rw [List.flatMap_cons] at hi
      have := (List.append_eq_nil_iff.1 hi).1
      split at this <;> simp at this
  | cons t m =>
    rw [hi] at hle2
    unfold classP
    have h94 : headIs 94 ((t :: m).flatMap itTx ++ 93 :: r) = false := by rw [List.flatMap_cons, List.append_assoc]; exact itTx_head t _ 94 (by simp)
    rw [h94]
    simp only [Bool.false_eq_true, if_false]
    rw [List.flatMap_cons, List.append_assoc, itemP_it t (hle2 t (List.mem_cons_self ..)) _ (its_head m r), Rd.bind_ok, itemsP_its m _ [t] r (fun u hu => hle2 u (List.mem_cons_of_mem _ hu)) (by simp), Rd.bind_ok]
    simp [classE]
/-- A Set's text is read as the Set. -/
theorem atomP_set (l : List Sp) (hne : l ≠ []) (ho : ordB l = true) (F : Nat) (r : List UInt8) : atomP (F + 1) (setT l ++ r) = .ok (setX l) r := by
  have hle := ordB_le ho
  unfold setT
  cases hl : lone l with
  | some c =>
    obtain rfl : l = [⟨c, c⟩] := by
      unfold lone at hl
      split at hl
      · rename_i x
        split at hl
        · rename_i e
          injection hl with hl
          cases x
          simp only at e hl
          subst e hl
          rfl
        · cases hl
      · cases hl
    simp only
    rw [atomP, if_neg (by rw [headIs_byteT c r 40 (by simp)]; simp), if_neg (by rw [headIs_byteT c r 46 (by simp)]; simp), if_neg (by rw [headIs_byteT c r 91 (by simp)]; simp), letP_outs, Rd.bind_ok]
    have : setM ([⟨c, c⟩], false) = inSp [⟨c, c⟩] := by funext x; simp [setM]
    rw [this, spP_self ho]
  | none =>
    simp only [List.cons_append, List.append_assoc]
    rw [atomP, if_neg (by simp [headIs]), if_neg (by simp [headIs]), if_pos (by simp [headIs])]
    simp only [List.tail_cons, List.nil_append]
    rw [classP_spans l hne hle r, Rd.bind_ok]
    have : setM (its l, false) = inSp l := by funext x; simp [setM, inSp_its l hle x]
    rw [this, spP_self ho]
end Go.Proofs.Ytpbceejjkdmclaa

/- Reading what was written: expressions. No walk. -/
namespace Go.Proofs.Ytpbceejjkdmclaa
open Go.RowKit

/-- The expressions of a list. -/
def exs : Fo → List Ex
  | .nil => []
  | .cons h kids rest => ⟨h, kids⟩ :: exs rest
theorem exs_length (f : Fo) : (exs f).length = f.len := by
  induction f with
  | nil => rfl
  | cons h k r _ ih => simp [exs, Fo.len, ih]
theorem foX_exs (f : Fo) : foX (exs f) = f := by
  induction f with
  | nil => rfl
  | cons h k r _ ih => simp [exs, foX, ih]
def wrapT (h : Hd) (t : List UInt8) : List UInt8 := if h.k = 4 ∨ h.k = 3 then 40 :: (t ++ [41]) else t
theorem partT_wrap {k : Int} (hk : k ≠ 4) (h : Hd) (t : List UInt8) : partT k h t = wrapT h t := by
  unfold partT wrapT
  simp [hk]
theorem partT_four (h : Hd) (t : List UInt8) : partT 4 h t = if h.k = 4 then wrapT h t else t := by
  unfold partT wrapT
  by_cases h4 : h.k = 4
  · simp [h4]
  · simp [h4]
def bndR (r : List UInt8) : Prop := r = [] ∨ headIs 41 r = true ∨ headIs 124 r = true
def bnd0R (r : List UInt8) : Prop := r = [] ∨ headIs 41 r = true
theorem bnd0R.bndR {r : List UInt8} (h : bnd0R r) : bndR r := by
  rcases h with h | h
  · exact .inl h
  · exact .inr (.inl h)
theorem bnd0R.no124 {r : List UInt8} (h : bnd0R r) : headIs 124 r = false := by
  rcases h with h | h
  · rw [h]; rfl
  · cases r with
    | nil => rfl
    | cons x r =>
      simp only [headIs, beq_iff_eq] at h
      subst h
      rfl
/-- No star, plus or question mark stands here. -/
def noRep (r : List UInt8) : Prop := ∀ x : Ex, repsP x r = (x, r)
theorem noRep_cons {c : UInt8} (r : List UInt8) (h : ¬ 0 ≤ Lib.indexByte reps c) : noRep (c :: r) := by
  intro x
  rw [repsP, if_neg h]
theorem noRep_of {c : UInt8} (r : List UInt8) (h : c ≠ 42 ∧ c ≠ 43 ∧ c ≠ 63) : noRep (c :: r) := by
  refine noRep_cons r ?_
  obtain ⟨h1, h2, h3⟩ := h
  have e1 : ((42 : UInt8) == c) = false := by rw [beq_eq_false_iff_ne]; exact fun e => h1 e.symm
  have e2 : ((43 : UInt8) == c) = false := by rw [beq_eq_false_iff_ne]; exact fun e => h2 e.symm
  have e3 : ((63 : UInt8) == c) = false := by rw [beq_eq_false_iff_ne]; exact fun e => h3 e.symm
  simp [reps, Lib.indexByte, e1, e2, e3]
theorem bndR.noRep {r : List UInt8} (h : bndR r) : noRep r := by
  cases r with
  | nil => intro x; rfl
  | cons c r =>
    refine noRep_of r ?_
    rcases h with h | h | h
    · cases h
    · simp only [headIs, beq_iff_eq] at h; subst h; decide
    · simp only [headIs, beq_iff_eq] at h; subst h; decide
def rp (x : Rd Ex) : Rd Ex := x.bind fun x r1 => .ok (repsP x r1).1 (repsP x r1).2

/-- How the text of an expression is read. -/
structure RdOk (h : Hd) (kids : Fo) : Prop where
  p : ∀ (r : List UInt8) (F : Nat), 6 * (wrapT h (textOf h kids)).length ≤ F → rp (atomP F (wrapT h (textOf h kids) ++ r)) = .ok (repsP ⟨h, kids⟩ r).1 (repsP ⟨h, kids⟩ r).2
  l : ∀ (r : List UInt8) (F : Nat), bndR r → 6 * (partT 4 h (textOf h kids)).length + 5 ≤ F → altP F (partT 4 h (textOf h kids) ++ r) = .ok ⟨h, kids⟩ r
  a : ∀ (r : List UInt8) (F : Nat), bnd0R r → 6 * (textOf h kids).length + 6 ≤ F → altsP F (textOf h kids ++ r) = .ok ⟨h, kids⟩ r
  hd : ∃ x t, wrapT h (textOf h kids) = x :: t ∧ x ≠ 124 ∧ x ≠ 41 ∧ x ≠ 42 ∧ x ≠ 43 ∧ x ≠ 63
def RdOkF : Fo → Prop
  | .nil => True
  | .cons h kids rest => RdOk h kids ∧ RdOkF rest

/-- Pieces, one behind the other. -/
theorem pieces_all (f : Fo) (b : Bool) (k : Int) (hk : k ≠ 4) : ∀ (F : Nat) (acc : List Ex) (r : List UInt8), RdOkF f → bndR r → 6 * (textF f k b).length + 3 ≤ F → piecesP F (textF f k b ++ r) acc = .ok (joinX 3 (acc ++ exs f)) r := by
  induction f generalizing b with
  | nil =>
    intro F acc r _ hb hF
    obtain ⟨F, rfl⟩ : ∃ G, F = G + 1 := ⟨F - 1, by omega⟩
    have : (r.isEmpty || headIs 124 r || headIs 41 r) = true := by
      rcases hb with h | h | h
      · rw [h]; rfl
      · simp [h]
      · simp [h]
    simp only [textF, List.nil_append, exs, List.append_nil]
    rw [piecesP, if_pos this]
  | cons h kids rest _ ih =>
    intro F acc r hg hb hF
    obtain ⟨hg1, hg2⟩ := hg
    obtain ⟨x, t, hx, n1, n2, n3, n4, n5⟩ := hg1.hd
    have e1 : textF (.cons h kids rest) k b = wrapT h (textOf h kids) ++ textF rest k false := by
      simp only [textF, hk, false_and, if_false, List.nil_append]
      rw [partT_wrap hk]
      rfl
    rw [e1, List.length_append] at hF
    have hpos : 1 ≤ (wrapT h (textOf h kids)).length := by rw [hx]; simp
    obtain ⟨F, rfl⟩ : ∃ G, F = G + 1 + 1 := ⟨F - 2, by omega⟩
    rw [e1, List.append_assoc]
    have hno : noRep (textF rest k false ++ r) := by
      cases rest with
      | nil => simpa [textF] using hb.noRep
      | cons h2 k2 r2 =>
        obtain ⟨y, t2, hy, m1, m2, m3, m4, m5⟩ := hg2.1.hd
        have e2 : textF (.cons h2 k2 r2) k false = wrapT h2 (textOf h2 k2) ++ textF r2 k false := by
          simp only [textF, hk, false_and, if_false, List.nil_append]
          rw [partT_wrap hk]
          rfl
        rw [e2, hy]
        exact noRep_of _ ⟨m3, m4, m5⟩
    have hcond : ((wrapT h (textOf h kids) ++ (textF rest k false ++ r)).isEmpty || headIs 124 (wrapT h (textOf h kids) ++ (textF rest k false ++ r)) || headIs 41 (wrapT h (textOf h kids) ++ (textF rest k false ++ r))) = false := by
      rw [hx]
      simp [headIs, n1, n2]
    rw [piecesP, if_neg (by rw [hcond]; simp), pieceP]
    have hp := hg1.p (textF rest k false ++ r) F (by omega)
    unfold rp at hp
    rw [hp, hno, Rd.bind_ok]
    simp only
    rw [ih false (F + 1) (acc ++ [(⟨h, kids⟩ : Ex)]) r hg2 hb (by omega)]
    simp [exs]

/-- Alternatives behind the first. -/
theorem more_all (f : Fo) : ∀ (F : Nat) (acc : List Ex) (r : List UInt8), RdOkF f → bnd0R r → 6 * (textF f 4 false).length + 1 ≤ F → moreP F (textF f 4 false ++ r) acc = .ok (joinX 4 (acc ++ exs f)) r := by
  induction f with
  | nil =>
    intro F acc r _ hb hF
    obtain ⟨F, rfl⟩ : ∃ G, F = G + 1 := ⟨F - 1, by omega⟩
    simp only [textF, List.nil_append, exs, List.append_nil]
    rw [moreP, if_neg (by rw [hb.no124]; simp)]
  | cons h kids rest _ ih =>
    intro F acc r hg hb hF
    obtain ⟨hg1, hg2⟩ := hg
    have e1 : textF (.cons h kids rest) 4 false = 124 :: (partT 4 h (textOf h kids) ++ textF rest 4 false) := by
      simp [textF]
      rfl
    rw [e1, List.length_cons, List.length_append] at hF
    obtain ⟨F, rfl⟩ : ∃ G, F = G + 1 := ⟨F - 1, by omega⟩
    rw [e1, List.cons_append, List.append_assoc, moreP, if_pos (by simp [headIs])]
    simp only [List.tail_cons]
    have hbr : bndR (textF rest 4 false ++ r) := by
      cases rest with
      | nil => simpa [textF] using hb.bndR
      | cons h2 k2 r2 => right; right; simp [textF, headIs]
    rw [hg1.l _ F hbr (by omega), Rd.bind_ok, ih F _ r hg2 hb (by omega)]
    simp [exs]

theorem joinX_two {k : Int} {l : List Ex} (h : 2 ≤ l.length) : joinX k l = ⟨⟨k, []⟩, foX l⟩ := by
  match l, h with
  | x :: y :: l, _ => rfl
theorem nodeT_body {h : Hd} {b : List UInt8} (h1 : h.k ≠ 1) (h2 : h.k ≠ 2) : nodeT h b = b ++ (if 5 ≤ h.k then [repT h.k] else []) := by
  unfold nodeT
  rw [if_neg h1, if_neg h2]
/-- What an expression that has just what its kind has is like. -/
theorem plain_cases {h : Hd} {kids : Fo} (hp : plainB h kids.len = true) :
    (h = ⟨1, []⟩ ∧ kids = .nil) ∨ (h.k = 2 ∧ kids = .nil ∧ h.set ≠ [] ∧ ordB h.set = true) ∨ ((h = ⟨3, []⟩ ∨ h = ⟨4, []⟩) ∧ 2 ≤ kids.len) ∨ ((h = ⟨5, []⟩ ∨ h = ⟨6, []⟩ ∨ h = ⟨7, []⟩) ∧ ∃ c ck, kids = .cons c ck .nil) := by
  obtain ⟨k, set⟩ := h
  have hnil : ((kids.len : Int) == 0) = true → kids = .nil := fun e => by
    cases kids with
    | nil => rfl
    | cons a b c => simp [Fo.len] at e; omega
  unfold plainB at hp
  simp only at hp
  by_cases h1 : k = 1
  · subst h1
    simp only [beq_self_eq_true, if_true, Bool.and_eq_true, beq_iff_eq] at hp
    exact .inl ⟨by rw [List.length_eq_zero_iff.1 hp.1], hnil (by simpa using hp.2)⟩
  rw [if_neg (by simpa using h1)] at hp
  by_cases h2 : k = 2
  · subst h2
    simp only [beq_self_eq_true, if_true, Bool.and_eq_true, decide_eq_true_eq] at hp
    exact .inr (.inl ⟨rfl, hnil hp.2, List.length_pos_iff.1 hp.1.1, hp.1.2⟩)
  rw [if_neg (by simpa using h2)] at hp
  split at hp
  · rename_i h3
    simp only [Bool.and_eq_true, beq_iff_eq, decide_eq_true_eq] at hp
    have hs := List.length_eq_zero_iff.1 hp.1
    subst hs
    simp only [Bool.or_eq_true, beq_iff_eq] at h3
    exact .inr (.inr (.inl ⟨by rcases h3 with rfl | rfl <;> simp, by omega⟩))
  · split at hp
    · rename_i h3
      simp only [Bool.and_eq_true, beq_iff_eq] at hp
      have hs := List.length_eq_zero_iff.1 hp.1
      subst hs
      simp only [Bool.or_eq_true, beq_iff_eq] at h3
      refine .inr (.inr (.inr ⟨by rcases h3 with (rfl | rfl) | rfl <;> simp, ?_⟩))
      cases kids with
      | nil => simp [Fo.len] at hp
      | cons c ck rest =>
        cases rest with
        | nil => exact ⟨c, ck, rfl⟩
        | cons a b d => simp [Fo.len] at hp; omega
    · cases hp
theorem wrapT_hd {h : Hd} {t : List UInt8} (hh : h.k = 4 ∨ h.k = 3) : wrapT h t = 40 :: (t ++ [41]) := by unfold wrapT; rw [if_pos hh]
theorem wrapT_no {h : Hd} {t : List UInt8} (h4 : h.k ≠ 4) (h3 : h.k ≠ 3) : wrapT h t = t := by unfold wrapT; rw [if_neg (by simp [h4, h3])]

/-- From a piece's reading to an alternative's, for what stands alone. -/
theorem alone_l {h : Hd} {kids : Fo} (hp : ∀ (r : List UInt8) (F : Nat), 6 * (wrapT h (textOf h kids)).length ≤ F → rp (atomP F (wrapT h (textOf h kids) ++ r)) = .ok (repsP ⟨h, kids⟩ r).1 (repsP ⟨h, kids⟩ r).2)
    (hd : ∃ x t, wrapT h (textOf h kids) = x :: t ∧ x ≠ 124 ∧ x ≠ 41 ∧ x ≠ 42 ∧ x ≠ 43 ∧ x ≠ 63) (r : List UInt8) (F : Nat) (hb : bndR r) (hF : 6 * (wrapT h (textOf h kids)).length + 5 ≤ F) : altP F (wrapT h (textOf h kids) ++ r) = .ok ⟨h, kids⟩ r := by
  obtain ⟨x, t, hx, n1, n2, n3, n4, n5⟩ := hd
  have hpos : 1 ≤ (wrapT h (textOf h kids)).length := by rw [hx]; simp
  obtain ⟨F, rfl⟩ : ∃ G, F = G + 1 + 1 + 1 := ⟨F - 3, by omega⟩
  have hcond : ((wrapT h (textOf h kids) ++ r).isEmpty || headIs 124 (wrapT h (textOf h kids) ++ r) || headIs 41 (wrapT h (textOf h kids) ++ r)) = false := by
    rw [hx]
    simp [headIs, n1, n2]
  have hp1 := hp r F (by omega)
  unfold rp at hp1
  have hrr : (r.isEmpty || headIs 124 r || headIs 41 r) = true := by
    rcases hb with h | h | h
    · rw [h]; rfl
    · simp [h]
    · simp [h]
  rw [altP, piecesP, if_neg (by rw [hcond]; simp), pieceP, hp1, hb.noRep, Rd.bind_ok]
  simp only
  rw [piecesP, if_pos hrr]
  rfl
/-- From an alternative's reading to all of them. -/
theorem one_a {h : Hd} {kids : Fo} {T : List UInt8} (r : List UInt8) (F : Nat) (hb : bnd0R r) (hl : ∀ F, 6 * T.length + 5 ≤ F → altP F (T ++ r) = .ok ⟨h, kids⟩ r) (hF : 6 * T.length + 6 ≤ F) : altsP F (T ++ r) = .ok ⟨h, kids⟩ r := by
  obtain ⟨F, rfl⟩ : ∃ G, F = G + 1 + 1 := ⟨F - 2, by omega⟩
  rw [altsP, hl (F + 1) (by omega), Rd.bind_ok, moreP, if_neg (by rw [hb.no124]; simp)]
  rfl
/-- What stands in brackets is read as what it is. -/
theorem wrapped_p {h : Hd} {kids : Fo} {T : List UInt8} (ha : ∀ (r : List UInt8) (F : Nat), bnd0R r → 6 * T.length + 6 ≤ F → altsP F (T ++ r) = .ok ⟨h, kids⟩ r) (r : List UInt8) (F : Nat) (hF : 6 * (T.length + 2) ≤ F) : rp (atomP F (40 :: (T ++ [41]) ++ r)) = .ok (repsP ⟨h, kids⟩ r).1 (repsP ⟨h, kids⟩ r).2 := by
  obtain ⟨F, rfl⟩ : ∃ G, F = G + 1 := ⟨F - 1, by omega⟩
  rw [List.cons_append, List.append_assoc, atomP, if_pos (by simp [headIs])]
  simp only [List.tail_cons, List.cons_append, List.nil_append]
  rw [ha (41 :: r) F (.inr (by simp [headIs])) (by omega), Rd.bind_ok]
  unfold closeP
  rw [if_pos (by simp [headIs])]
  rfl

theorem good_of {h : Hd} {kids : Fo} (hp : plainB h kids.len = true) (hk : RdOkF kids) : RdOk h kids := by
  rcases plain_cases hp with ⟨rfl, rfl⟩ | ⟨h2, rfl, hne, ho⟩ | ⟨h34, hlen⟩ | ⟨h567, c, ck, rfl⟩
  · -- Empty
    have ht : textOf ⟨1, []⟩ .nil = [40, 41] := rfl
    have hw : wrapT ⟨1, []⟩ [40, 41] = [40, 41] := rfl
    have ha0 : ∀ (r : List UInt8) (F : Nat), bnd0R r → 6 * ([] : List UInt8).length + 6 ≤ F → altsP F ([] ++ r) = .ok ⟨⟨1, []⟩, .nil⟩ r := by
      intro r F hb hF
      refine one_a (T := []) r F hb (fun F hF => ?_) hF
      obtain ⟨F, rfl⟩ : ∃ G, F = G + 1 + 1 := ⟨F - 2, by simp at hF; omega⟩
      have hrr : (r.isEmpty || headIs 124 r || headIs 41 r) = true := by
        rcases hb with h | h
        · rw [h]; rfl
        · simp [h]
      rw [List.nil_append, altP, piecesP, if_pos hrr]
      rfl
    have hP : ∀ (r : List UInt8) (F : Nat), 6 * (wrapT ⟨1, []⟩ (textOf ⟨1, []⟩ .nil)).length ≤ F → rp (atomP F (wrapT ⟨1, []⟩ (textOf ⟨1, []⟩ .nil) ++ r)) = .ok (repsP ⟨⟨1, []⟩, .nil⟩ r).1 (repsP ⟨⟨1, []⟩, .nil⟩ r).2 := by
      intro r F hF
      rw [ht, hw] at hF ⊢
      exact wrapped_p (T := []) ha0 r F (by simpa using hF)
    have hd : ∃ x t, wrapT ⟨1, []⟩ (textOf ⟨1, []⟩ .nil) = x :: t ∧ x ≠ 124 ∧ x ≠ 41 ∧ x ≠ 42 ∧ x ≠ 43 ∧ x ≠ 63 := ⟨40, [41], rfl, by decide⟩
    have hl := alone_l hP hd
    exact ⟨hP, fun r F hb hF => hl r F hb hF, fun r F hb hF => one_a r F hb (fun F hF => hl r F hb.bndR hF) hF, hd⟩
  · -- Set
    obtain ⟨k, set⟩ := h
    simp only at h2 hne ho
    subst h2
    have ht : textOf ⟨2, set⟩ .nil = setT set := rfl
    have hw : wrapT ⟨2, set⟩ (setT set) = setT set := rfl
    have hd : ∃ x t, setT set = x :: t ∧ x ≠ 124 ∧ x ≠ 41 ∧ x ≠ 42 ∧ x ≠ 43 ∧ x ≠ 63 := by
      unfold setT
      cases lone set with
      | some c => obtain ⟨x, t, e, _, _, _, _, _, _, h7, h8, h9, h10, h11⟩ := byteT_cons c; exact ⟨x, t, e, h8, h7, h9, h10, h11⟩
      | none => exact ⟨91, _, rfl, by decide⟩
    have hP : ∀ (r : List UInt8) (F : Nat), 6 * (wrapT ⟨2, set⟩ (textOf ⟨2, set⟩ .nil)).length ≤ F → rp (atomP F (wrapT ⟨2, set⟩ (textOf ⟨2, set⟩ .nil) ++ r)) = .ok (repsP ⟨⟨2, set⟩, .nil⟩ r).1 (repsP ⟨⟨2, set⟩, .nil⟩ r).2 := by
      intro r F hF
      rw [ht, hw] at hF ⊢
      obtain ⟨x, t, e, _⟩ := hd
      obtain ⟨F, rfl⟩ : ∃ G, F = G + 1 := ⟨F - 1, by rw [e] at hF; simp at hF; omega⟩
      rw [atomP_set set hne ho F r]
      rfl
    have hd' : ∃ x t, wrapT ⟨2, set⟩ (textOf ⟨2, set⟩ .nil) = x :: t ∧ x ≠ 124 ∧ x ≠ 41 ∧ x ≠ 42 ∧ x ≠ 43 ∧ x ≠ 63 := hd
    have hl := alone_l hP hd'
    exact ⟨hP, fun r F hb hF => hl r F hb hF, fun r F hb hF => one_a r F hb (fun F hF => hl r F hb.bndR hF) hF, hd'⟩
  · -- Cat, Alt
    rcases h34 with rfl | rfl
    · have ht : textOf ⟨3, []⟩ kids = textF kids 3 true := by
        unfold textOf
        rw [nodeT_body (by decide) (by decide)]
        simp
      have hL : ∀ (r : List UInt8) (F : Nat), bndR r → 6 * (textOf ⟨3, []⟩ kids).length + 5 ≤ F → altP F (textOf ⟨3, []⟩ kids ++ r) = .ok ⟨⟨3, []⟩, kids⟩ r := by
        intro r F hb hF
        obtain ⟨F, rfl⟩ : ∃ G, F = G + 1 := ⟨F - 1, by omega⟩
        rw [ht] at hF ⊢
        rw [altP, pieces_all kids true 3 (by decide) F [] r hk hb (by omega), List.nil_append, joinX_two (by rw [exs_length]; exact hlen), foX_exs]
      have hA : ∀ (r : List UInt8) (F : Nat), bnd0R r → 6 * (textOf ⟨3, []⟩ kids).length + 6 ≤ F → altsP F (textOf ⟨3, []⟩ kids ++ r) = .ok ⟨⟨3, []⟩, kids⟩ r := fun r F hb hF => one_a r F hb (fun F hF => hL r F hb.bndR hF) hF
      have hw : wrapT ⟨3, []⟩ (textOf ⟨3, []⟩ kids) = 40 :: (textOf ⟨3, []⟩ kids ++ [41]) := wrapT_hd (.inr rfl)
      refine ⟨fun r F hF => ?_, fun r F hb hF => ?_, hA, ?_⟩
      · rw [hw] at hF ⊢
        exact wrapped_p hA r F (by simp at hF; omega)
      · rw [partT_four, if_neg (by decide)] at hF ⊢
        exact hL r F hb hF
      · rw [hw]; exact ⟨40, _, rfl, by decide⟩
    · have ht : textOf ⟨4, []⟩ kids = textF kids 4 true := by
        unfold textOf
        rw [nodeT_body (by decide) (by decide)]
        simp
      have hA : ∀ (r : List UInt8) (F : Nat), bnd0R r → 6 * (textOf ⟨4, []⟩ kids).length + 6 ≤ F → altsP F (textOf ⟨4, []⟩ kids ++ r) = .ok ⟨⟨4, []⟩, kids⟩ r := by
        intro r F hb hF
        obtain ⟨F, rfl⟩ : ∃ G, F = G + 1 := ⟨F - 1, by omega⟩
        rw [ht] at hF ⊢
        cases kids with
        | nil => simp [Fo.len] at hlen
        | cons c ck rest =>
          obtain ⟨hg1, hg2⟩ := hk
          have e1 : textF (.cons c ck rest) 4 true = partT 4 c (textOf c ck) ++ textF rest 4 false := by
            simp [textF]
            rfl
          rw [e1, List.length_append] at hF
          rw [e1, List.append_assoc]
          have hbr : bndR (textF rest 4 false ++ r) := by
            cases rest with
            | nil => simpa [textF] using hb.bndR
            | cons h2 k2 r2 => right; right; simp [textF, headIs]
          rw [altsP, hg1.l _ F hbr (by omega), Rd.bind_ok, more_all rest F [(⟨c, ck⟩ : Ex)] r hg2 hb (by omega)]
          have : [(⟨c, ck⟩ : Ex)] ++ exs rest = exs (.cons c ck rest) := rfl
          rw [this, joinX_two (by rw [exs_length]; exact hlen), foX_exs]
      have hw : wrapT ⟨4, []⟩ (textOf ⟨4, []⟩ kids) = 40 :: (textOf ⟨4, []⟩ kids ++ [41]) := wrapT_hd (.inl rfl)
      have hP : ∀ (r : List UInt8) (F : Nat), 6 * (wrapT ⟨4, []⟩ (textOf ⟨4, []⟩ kids)).length ≤ F → rp (atomP F (wrapT ⟨4, []⟩ (textOf ⟨4, []⟩ kids) ++ r)) = .ok (repsP ⟨⟨4, []⟩, kids⟩ r).1 (repsP ⟨⟨4, []⟩, kids⟩ r).2 := by
        intro r F hF
        rw [hw] at hF ⊢
        exact wrapped_p hA r F (by simp at hF; omega)
      have hd : ∃ x t, wrapT ⟨4, []⟩ (textOf ⟨4, []⟩ kids) = x :: t ∧ x ≠ 124 ∧ x ≠ 41 ∧ x ≠ 42 ∧ x ≠ 43 ∧ x ≠ 63 := by rw [hw]; exact ⟨40, _, rfl, by decide⟩
      refine ⟨hP, fun r F hb hF => ?_, hA, hd⟩
      rw [partT_four, if_pos rfl] at hF ⊢
      exact alone_l hP hd r F hb hF
  · -- Star, Plus, Opt
    obtain ⟨hg1, _⟩ := hk
    have key : ∀ (k : Int) (u : UInt8), 5 ≤ k → k ≠ 4 → k ≠ 3 → k ≠ 1 → k ≠ 2 → repT k = u → 0 ≤ Lib.indexByte reps u → 5 + Lib.indexByte reps u = k → RdOk ⟨k, []⟩ (.cons c ck .nil) := by
      intro k u k5 k4 k3 k1 k2 hu hi hik
      have ht : textOf ⟨k, []⟩ (.cons c ck .nil) = wrapT c (textOf c ck) ++ [u] := by
        unfold textOf
        rw [nodeT_body k1 k2, if_pos k5, hu]
        simp only [textF, k4, false_and, if_false, List.nil_append, List.append_nil]
        rw [partT_wrap k4]
      have hw : wrapT ⟨k, []⟩ (textOf ⟨k, []⟩ (.cons c ck .nil)) = wrapT c (textOf c ck) ++ [u] := by rw [wrapT_no k4 k3, ht]
      have hP : ∀ (r : List UInt8) (F : Nat), 6 * (wrapT ⟨k, []⟩ (textOf ⟨k, []⟩ (.cons c ck .nil))).length ≤ F → rp (atomP F (wrapT ⟨k, []⟩ (textOf ⟨k, []⟩ (.cons c ck .nil)) ++ r)) = .ok (repsP ⟨⟨k, []⟩, .cons c ck .nil⟩ r).1 (repsP ⟨⟨k, []⟩, .cons c ck .nil⟩ r).2 := by
        intro r F hF
        rw [hw] at hF ⊢
        rw [List.append_assoc, hg1.p _ F (by simp at hF; omega)]
        simp only [List.cons_append, List.nil_append]
        rw [repsP, if_pos hi, hik]
      have hd : ∃ x t, wrapT ⟨k, []⟩ (textOf ⟨k, []⟩ (.cons c ck .nil)) = x :: t ∧ x ≠ 124 ∧ x ≠ 41 ∧ x ≠ 42 ∧ x ≠ 43 ∧ x ≠ 63 := by
        obtain ⟨x, t, e, hh⟩ := hg1.hd
        rw [hw, e]
        exact ⟨x, _, rfl, hh⟩
      have hl := alone_l hP hd
      have hwt : wrapT ⟨k, []⟩ (textOf ⟨k, []⟩ (.cons c ck .nil)) = textOf ⟨k, []⟩ (.cons c ck .nil) := wrapT_no k4 k3
      refine ⟨hP, fun r F hb hF => ?_, fun r F hb hF => one_a r F hb (fun F hF => ?_) hF, hd⟩
      · rw [partT_four, if_neg k4] at hF ⊢
        rw [hwt] at hl
        exact hl r F hb hF
      · rw [hwt] at hl
        exact hl r F hb.bndR hF
    rcases h567 with rfl | rfl | rfl
    · exact key 5 42 (by decide) (by decide) (by decide) (by decide) (by decide) rfl (by decide) (by decide)
    · exact key 6 43 (by decide) (by decide) (by decide) (by decide) (by decide) rfl (by decide) (by decide)
    · exact key 7 63 (by decide) (by decide) (by decide) (by decide) (by decide) rfl (by decide) (by decide)
theorem goodF : ∀ (f : Fo), okF f → RdOkF f := by
  intro f
  induction f with
  | nil => intro _; trivial
  | cons h kids rest ihk ihr => rintro ⟨h1, h2, h3⟩; exact ⟨good_of h1 (ihk h2), ihr h3⟩
/-- PARSE OF TEXT IS THE EXPRESSION. -/
theorem parse_text {h : Hd} {kids : Fo} (hc : ckE h kids = 0) (hl : (textOf h kids).length ≤ 4096) : parseP (textOf h kids) = (⟨h, kids⟩, 0, 0) := by
  obtain ⟨h1, h2⟩ := ckE_ok hc
  have hg := (good_of h1 (goodF kids h2)).a [] (8 * (textOf h kids).length + 8) (.inl rfl) (by omega)
  rw [List.append_nil] at hg
  unfold parseP
  rw [if_neg (by omega), hg]
  simp [hc]
end Go.Proofs.Ytpbceejjkdmclaa
