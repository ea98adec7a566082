/- What was written can be read in one way alone: the bytes of items that may be tell the items. No program is walked. -/
import Derived.Test.YtahibjiiaocjkaaEncode
import Derived.Test.YtahibjiiaocjkaaSame
import Derived.Laws.Strings
namespace Go.Proofs.Ytahibjiiaocjkaa
open Go.RowKit

/-- A count read off the front of a list of bytes: the number, and what is left. -/
def rdC : Nat → List UInt8 → Option (Nat × List UInt8)
  | _, [] => none
  | n, c :: r => if c.toNat < 128 then some (n * 128 + c.toNat, r) else rdC (n * 128 + (c.toNat - 128)) r

theorem lo_toNat {m : Nat} (h : m < 128) : (UInt8.ofNat m).toNat = m := by rw [UInt8.toNat_ofNat']; omega
theorem hi_toNat {m : Nat} (h : m < 128) : (UInt8.ofNat m ||| 128).toNat = m + 128 := by
  have := (or128 ⟨m, h⟩).1
  simp only at this
  rw [this, UInt8.toNat_ofNat']; omega
theorem or128_or (c : UInt8) : c ||| 128 ||| 128 = c ||| 128 := by
  rw [UInt8.or_assoc]; rfl

set_option maxRecDepth 100000 in
theorem rdC_groups : ∀ (f m : Nat) (zs : List UInt8), m < 128 ^ (f + 1) → rdC 0 ((cntF f m).map (· ||| 128) ++ zs) = rdC m zs := by
  intro f
  induction f with
  | zero =>
    intro m zs h
    have h1 : m < 128 := by simpa using h
    simp only [cntF, List.map_cons, List.map_nil, List.cons_append, List.nil_append, rdC, Nat.mod_eq_of_lt h1, hi_toNat h1]
    rw [if_neg (by omega)]
    congr 1; omega
  | succ f ih =>
    intro m zs h
    unfold cntF
    split
    · have hl : m % 128 < 128 := Nat.mod_lt _ (by omega)
      rw [List.map_append, List.map_map, List.append_assoc]
      rw [show ((fun x : UInt8 => x ||| 128) ∘ fun x => x ||| 128) = (fun x => x ||| 128) from by funext c; exact or128_or c]
      rw [ih (m / 128) _ (by rw [Nat.pow_succ] at h; omega)]
      simp only [List.map_cons, List.map_nil, List.cons_append, List.nil_append, rdC, hi_toNat hl]
      rw [if_neg (by omega)]
      congr 1; omega
    · have h1 : m < 128 := by omega
      simp only [List.map_cons, List.map_nil, List.cons_append, List.nil_append, rdC, Nat.mod_eq_of_lt h1, hi_toNat h1]
      rw [if_neg (by omega)]
      congr 1; omega

set_option maxRecDepth 100000 in
theorem rdC_count (n : Nat) (zs : List UInt8) (h : n < 9223372036854775808) : rdC 0 (countB n ++ zs) = some (n, zs) := by
  unfold countB
  rw [show (9 : Nat) = 8 + 1 from rfl]
  unfold cntF
  split
  · have hl : n % 128 < 128 := Nat.mod_lt _ (by omega)
    rw [List.append_assoc, rdC_groups 8 (n / 128) _ (by omega)]
    simp only [List.cons_append, List.nil_append, rdC, lo_toNat hl]
    rw [if_pos (by omega)]
    congr 2; omega
  · have h1 : n < 128 := by omega
    simp only [List.cons_append, List.nil_append, rdC, Nat.mod_eq_of_lt h1, lo_toNat h1]
    rw [if_pos (by omega)]
    congr 2; omega

theorem count_uniq {n m : Nat} {xs ys : List UInt8} (hn : n < 9223372036854775808) (hm : m < 9223372036854775808) (h : countB n ++ xs = countB m ++ ys) : n = m ∧ xs = ys := by
  have := rdC_count n xs hn
  rw [h, rdC_count m ys hm] at this
  simp only [Option.some.injEq, Prod.mk.injEq] at this
  exact ⟨this.1.symm, this.2.symm⟩

theorem hiB_uniq : ∀ (k v v' : Nat), hiB k v = hiB k v' → v % 256 ^ k = v' % 256 ^ k := by
  intro k
  induction k with
  | zero => intro v v' _; simp [Nat.mod_one]
  | succ k ih =>
    intro v v' h
    simp only [hiB, List.cons.injEq] at h
    have h1 := congrArg UInt8.toNat h.1
    rw [UInt8.toNat_ofNat', UInt8.toNat_ofNat'] at h1
    have h2 := ih v v' h.2
    rw [Nat.pow_succ, Nat.mod_mul, Nat.mod_mul, h2]
    have : v / 256 ^ k % 256 = v' / 256 ^ k % 256 := by simpa using h1
    rw [this]

theorem byteK_val {k : Int} (h : k = 1 ∨ k = 2 ∨ k = 3) : (byteK k).toNat = k.toNat := by
  rcases h with rfl | rfl | rfl <;> rfl

theorem plain_kind {h : Hd} {len : Nat} (hp : plainB h len = true) : h.k = 1 ∨ h.k = 2 ∨ h.k = 3 := by
  unfold plainB at hp
  split at hp
  · rename_i e; exact .inl (by simpa using e)
  · split at hp
    · rename_i e; exact .inr (.inl (by simpa using e))
    · split at hp
      · rename_i e; exact .inr (.inr (by simpa using e))
      · cases hp

theorem bytes_eq {a b : ByteArray} (h : a.data.toList = b.data.toList) : a = b := by
  obtain ⟨⟨l⟩⟩ := a
  obtain ⟨⟨m⟩⟩ := b
  simp only at h
  rw [h]

theorem str_eq {a b : ByteArray} (h : a.toList = b.toList) : a = b := bytes_eq (by rw [ByteArray.toList_eq, ByteArray.toList_eq] at h; exact h)

/-- An item's number fits its type. -/
def fits (h : Hd) : Prop := -9223372036854775808 ≤ h.n ∧ h.n ≤ 9223372036854775807

set_option maxRecDepth 100000 in
/-- The head of an item that may be, read back. -/
theorem head_uniq {h g : Hd} {n m : Nat} {xs ys : List UInt8} (hp : plainB h n = true) (gp : plainB g m = true) (hf : fits h) (gf : fits g) (hn : n < 9223372036854775808) (gn : m < 9223372036854775808) (hs : h.s.size < 9223372036854775808) (gs : g.s.size < 9223372036854775808)
    (e : headB h n ++ xs = headB g m ++ ys) : h = g ∧ n = m ∧ xs = ys := by
  have hk := plain_kind hp
  have gk := plain_kind gp
  unfold headB at e
  simp only [List.cons_append, List.cons.injEq] at e
  obtain ⟨e0, e1⟩ := e
  have ek : h.k = g.k := by
    have := congrArg UInt8.toNat e0
    rw [byteK_val hk, byteK_val gk] at this
    omega
  obtain ⟨k, a, s⟩ := h
  obtain ⟨k', b, t⟩ := g
  simp only at *
  subst ek
  unfold fits at hf gf
  simp only at hf gf
  unfold plainB at hp gp
  rcases hk with rfl | rfl | rfl
  · simp at hp gp e1
    obtain ⟨hp1, hp2⟩ := hp
    obtain ⟨gp1, gp2⟩ := gp
    have hl := List.append_inj e1 (by rw [hiB_length, hiB_length])
    have hu := hiB_uniq 8 _ _ hl.1
    simp only [u64N] at hu
    refine ⟨?_, by omega, hl.2⟩
    have ha : a = b := by omega
    subst ha
    have hst : s = t := str_eq (by rw [hp1, gp1])
    rw [hst]
  · simp at hp gp e1
    obtain ⟨hp1, hp2⟩ := hp
    obtain ⟨gp1, gp2⟩ := gp
    have hc := count_uniq hs gs e1
    have hl := List.append_inj hc.2 (by rw [Array.length_toList, Array.length_toList]; exact hc.1)
    refine ⟨?_, by omega, hl.2⟩
    rw [bytes_eq hl.1, hp1, gp1]
  · simp at hp gp e1
    obtain ⟨hp1, hp2⟩ := hp
    obtain ⟨gp1, gp2⟩ := gp
    have hc := count_uniq hn gn e1
    refine ⟨?_, hc.1, hc.2⟩
    have hst : s = t := str_eq (by rw [hp2, gp2])
    rw [hst, hp1, gp1]

/-- All numbers fit, no text is too long. -/
def Fo.fit : Fo → Prop
  | .nil => True
  | .cons h kids rest => fits h ∧ h.s.size < 9223372036854775808 ∧ kids.fit ∧ rest.fit

theorem encL_cons (h : Hd) (kids rest : Fo) (d : Nat) : encL ((Fo.cons h kids rest).pre d) = headB h kids.len ++ (encL (kids.pre (d + 1)) ++ encL (rest.pre d)) := by
  simp [encL, Fo.pre]

theorem enc_uniq : ∀ (f g : Fo) (d e : Nat) (xs ys : List UInt8), mayB f = true → mayB g = true → f.fit → g.fit → f.size < 9223372036854775808 → g.size < 9223372036854775808 → f.len = g.len →
    encL (f.pre d) ++ xs = encL (g.pre e) ++ ys → sameB f g = true ∧ xs = ys := by
  intro f
  induction f with
  | nil =>
    intro g d e xs ys _ _ _ _ _ _ hl h
    cases g with
    | nil => exact ⟨rfl, by simpa [encL, Fo.pre] using h⟩
    | cons _ _ _ => simp [Fo.len] at hl
  | cons hh kids rest ihk ihr =>
    intro g d e xs ys hm gm hf gf hs gs hl h
    cases g with
    | nil => simp [Fo.len] at hl
    | cons gh gk gr =>
      rw [mayB_cons, Bool.and_eq_true, Bool.and_eq_true] at hm gm
      obtain ⟨f1, f2, f3, f4⟩ := hf
      obtain ⟨g1, g2, g3, g4⟩ := gf
      simp only [Fo.size] at hs gs
      have l1 := Fo.len_le kids
      have l2 := Fo.len_le gk
      rw [encL_cons, encL_cons, List.append_assoc, List.append_assoc, List.append_assoc, List.append_assoc] at h
      obtain ⟨e1, e2, h⟩ := head_uniq hm.1.1 gm.1.1 f1 g1 (by omega) (by omega) f2 g2 h
      obtain ⟨s1, h⟩ := ihk gk _ _ _ _ hm.1.2 gm.1.2 f3 g3 (by omega) (by omega) e2 h
      obtain ⟨s2, h⟩ := ihr gr _ _ _ _ hm.2 gm.2 f4 g4 (by omega) (by omega) (by simpa [Fo.len] using hl) h
      refine ⟨?_, h⟩
      subst e1
      simp [sameB, s1, s2, hdB, e2]

theorem enc_same : ∀ (f g : Fo) (d e : Nat), sameB f g = true → encL (f.pre d) = encL (g.pre e) := by
  intro f
  induction f with
  | nil =>
    intro g d e h
    cases g with
    | nil => rfl
    | cons _ _ _ => simp [sameB] at h
  | cons hh kids rest ihk ihr =>
    intro g d e h
    cases g with
    | nil => simp [sameB] at h
    | cons gh gk gr =>
      simp only [sameB, Bool.and_eq_true] at h
      obtain ⟨⟨h1, h2⟩, h3⟩ := h
      rw [encL_cons, encL_cons, ihk gk _ (e + 1) h2, ihr gr _ e h3]
      simp only [hdB, Bool.and_eq_true, beq_iff_eq] at h1
      obtain ⟨⟨⟨k1, k2⟩, k3⟩, k4⟩ := h1
      have e1 : hh = gh := by
        obtain ⟨a, b, c⟩ := hh
        obtain ⟨a', b', c'⟩ := gh
        simp only at k1 k2 k3
        rw [k1, k2, str_eq k3]
      rw [e1, show kids.len = gk.len from by omega]

/-- How much a list of items holds: a place each, and its texts. -/
def Fo.wtS : Fo → Nat
  | .nil => 0
  | .cons h kids rest => h.s.size + 1 + kids.wtS + rest.wtS
theorem wt_pre (f : Fo) : ∀ d, wt (f.pre d) ≤ 30 * f.wtS := by
  induction f with
  | nil => intro d; simp [Fo.pre, wt]
  | cons h kids rest ihk ihr =>
    intro d
    have h1 := ihk (d + 1)
    have h2 := ihr d
    simp only [Fo.pre, wt, wt_append, Fo.wtS]
    omega
theorem size_wtS (f : Fo) : f.size ≤ f.wtS := by
  induction f with
  | nil => simp [Fo.size]
  | cons h kids rest ihk ihr => simp only [Fo.size, Fo.wtS]; omega

/-- Items that may be, and are not too deep. -/
theorem check_may {h : Hd} {kids : Fo} (e : checkE (Fo.pre 1 (.cons h kids .nil)) = 0) : mayB (.cons h kids .nil) = true := by
  unfold checkE at e
  split at e
  · assumption
  · simp at e

/-- Two items that may be have the same bytes, just if they are the same. -/
theorem enc_apart {h g : Hd} {kids gids : Fo} (e : checkE (Fo.pre 1 (.cons h kids .nil)) = 0) (f : checkE (Fo.pre 1 (.cons g gids .nil)) = 0) (hf : (Fo.cons h kids .nil).fit) (gf : (Fo.cons g gids .nil).fit) (hs : kids.size + 1 < 9223372036854775808) (gs : gids.size + 1 < 9223372036854775808) :
    decide (encB (Fo.pre 1 (.cons h kids .nil)) = encB (Fo.pre 1 (.cons g gids .nil))) = (hdB h g kids.len gids.len && sameB kids gids) := by
  unfold encB
  rw [if_pos e, if_pos f]
  have key : (hdB h g kids.len gids.len && sameB kids gids) = sameB (.cons h kids .nil) (.cons g gids .nil) := by simp [sameB]
  rw [key]
  by_cases hsame : sameB (.cons h kids .nil) (.cons g gids .nil) = true
  · rw [hsame]
    exact decide_eq_true (enc_same _ _ 1 1 hsame)
  · rw [Bool.not_eq_true] at hsame
    rw [hsame]
    refine decide_eq_false fun heq => ?_
    have := (enc_uniq (.cons h kids .nil) (.cons g gids .nil) 1 1 [] [] (check_may e) (check_may f) hf gf (by simpa [Fo.size] using hs) (by simpa [Fo.size] using gs) rfl (by rw [heq])).1
    rw [hsame] at this
    cases this
end Go.Proofs.Ytahibjiiaocjkaa
