/- Texts joined: Sd Se Sf. -/
import Derived.Test.YtngbfjimmdkfeaaPXS1
import Derived.Test.YtngbfjimmdkfeaaPXQ
import Derived.Test.YtngbfjimmdkfeaaPXN
import Derived.Test.YtngbfjimmdkfeaaPXM
set_option linter.unusedVariables false
set_option linter.unusedSimpArgs false
namespace Go.Proofs.Ytngbfjimmdkfeaa
open Go.RowKit

/-- Texts of L, any number of them, one behind the other. -/
inductive Star (L : List UInt8 → Prop) : List UInt8 → Prop where
  | nil : Star L []
  | app {u v : List UInt8} (h : L u) (k : Star L v) : Star L (u ++ v)
/-- What one of a list's expressions matches, all of them one behind the other, the first. -/
structure LL where
  alt : List UInt8 → Prop
  cat : List UInt8 → Prop
  fst : List UInt8 → Prop
def exL (h : Hd) (K : LL) (s : List UInt8) : Prop :=
  if h.k = 1 then s = []
  else if h.k = 2 then ∃ c : UInt8, s = [c] ∧ inSp h.set c.toNat = true
  else if h.k = 4 then K.alt s
  else if h.k = 5 then Star K.fst s
  else if h.k = 6 then ∃ u v, s = u ++ v ∧ K.fst u ∧ Star K.fst v
  else if h.k = 7 then s = [] ∨ K.fst s
  else K.cat s
def foL : Fo → LL
  | .nil => ⟨fun _ => False, fun s => s = [], fun _ => False⟩
  | .cons h kids rest => ⟨fun s => exL h (foL kids) s ∨ (foL rest).alt s, fun s => ∃ u v, s = u ++ v ∧ exL h (foL kids) u ∧ (foL rest).cat v, exL h (foL kids)⟩
/-- An expression matches a text. -/
def mL (h : Hd) (kids : Fo) (s : List UInt8) : Prop := exL h (foL kids) s

/-- A way of so many steps from a state to another, along these bytes. -/
inductive Pth (ns : List Nod) : Nat → Nat → List UInt8 → Nat → Prop where
  | nil (x : Nat) : Pth ns 0 x [] x
  | eps {n x y z : Nat} {s : List UInt8} (hy : y ∈ oneS ns x) (h : Pth ns n y s z) : Pth ns (n + 1) x s z
  | byte {n i z : Nat} {c : UInt8} {s : List UInt8} (hk : (ns.getD i nod0).k = 2) (hc : hasW (ns.getD i nod0).f c.toNat = true) (h : Pth ns n (2 * i + 1) s z) : Pth ns (n + 1) (2 * i) (c :: s) z
theorem Pth.snocE {ns : List Nod} {n x y z : Nat} {s : List UInt8} (h : Pth ns n x s y) (hz : z ∈ oneS ns y) : Pth ns (n + 1) x s z := by
  induction h with
  | nil x => exact .eps hz (.nil z)
  | eps hy _ ih => exact .eps hy (ih hz)
  | byte hk hc _ ih => exact .byte hk hc (ih hz)
theorem Pth.snocB {ns : List Nod} {n x y i : Nat} {s : List UInt8} {c : UInt8} (h : Pth ns n x s y) (hy : y = 2 * i) (hk : (ns.getD i nod0).k = 2) (hc : hasW (ns.getD i nod0).f c.toNat = true) : Pth ns (n + 1) x (s ++ [c]) (2 * i + 1) := by
  induction h with
  | nil x => subst hy; exact .byte hk hc (.nil _)
  | eps hy2 _ ih => exact .eps hy2 (ih hy)
  | byte hk2 hc2 _ ih => exact .byte hk2 hc2 (ih hy)
theorem rch_pth {ns : List Nod} {p : List UInt8} {x : Nat} (h : Rch ns p x) : ∃ n, Pth ns n 0 p x := by
  induction h with
  | init => exact ⟨0, .nil 0⟩
  | eps _ hy ih => obtain ⟨n, h⟩ := ih; exact ⟨n + 1, h.snocE hy⟩
  | byte _ hk hc ih => obtain ⟨n, h⟩ := ih; exact ⟨n + 1, h.snocB rfl hk hc⟩
theorem pth_rch {ns : List Nod} {n x y : Nat} {s : List UInt8} (h : Pth ns n x s y) : ∀ q, Rch ns q x → Rch ns (q ++ s) y := by
  induction h with
  | nil x => intro q hq; rw [List.append_nil]; exact hq
  | eps hy _ ih => intro q hq; exact ih q (.eps hq hy)
  | byte hk hc _ ih =>
    intro q hq
    have := ih _ (Rch.byte hq hk hc)
    simpa using this
/-- From here one comes to the end of all with these bytes. -/
def Acc (ns : List Nod) (x : Nat) (s : List UInt8) : Prop := ∃ n, Pth ns n x s 1
theorem Acc.eps {ns : List Nod} {x y : Nat} {s : List UInt8} (h : Acc ns y s) (hy : y ∈ oneS ns x) : Acc ns x s := by
  obtain ⟨n, h⟩ := h; exact ⟨n + 1, .eps hy h⟩

theorem one_begin (ns : List Nod) (b : Nat) : oneS ns (2 * b) = beginS ns b := by
  unfold oneS; rw [if_pos (by omega), show 2 * b / 2 = b by omega]
theorem one_end (ns : List Nod) (b : Nat) : oneS ns (2 * b + 1) = endS ns b := by
  unfold oneS; rw [if_neg (by omega), show (2 * b + 1) / 2 = b by omega]
theorem getD_eq {ns : List Nod} {b : Nat} {x : Nod} (h : ns[b]? = some x) : ns.getD b nod0 = x := by
  rw [List.getD_eq_getElem?_getD, h]; rfl
/-- Behind a part of the node b. -/
theorem end_of {ns : List Nod} {c b : Nat} {x : Nod} (h : ns[c]? = some x) (hu : x.up = (b : Int)) {K : Int} (hk : (ns.getD b nod0).k = K) :
    oneS ns (2 * c + 1) = if K = 5 ∨ K = 6 then [2 * c, 2 * b + 1] else if K = 3 then (if x.next = -1 then [2 * b + 1] else [2 * x.next.toNat]) else [2 * b + 1] := by
  rw [one_end]
  unfold endS
  rw [getD_eq h, hu, if_neg (by omega), Int.toNat_natCast, hk]
def FwdE (ns : List Nod) (b : Nat) (h : Hd) (kids : Fo) : Prop := ∀ u v, exL h (foL kids) u → Acc ns (2 * b + 1) v → Acc ns (2 * b) (u ++ v)
def FwdF (ns : List Nod) : Fo → Nat → Prop
  | .nil, _ => True
  | .cons h kids rest, b => FwdE ns b h kids ∧ FwdF ns rest (b + 1 + kids.size)
theorem len_nil {f : Fo} (h : f.len = 0) : f = .nil := by
  cases f with
  | nil => rfl
  | cons h k r => simp [Fo.len] at h
theorem fwd_cat {ns : List Nod} {b : Nat} (hk : (ns.getD b nod0).k = 3) : ∀ (f : Fo) (c : Nat), Lay ns f c (b : Int) → FwdF ns f c → f.len ≠ 0 → ∀ u v, (foL f).cat u → Acc ns (2 * b + 1) v → Acc ns (2 * c) (u ++ v) := by
  intro f
  induction f with
  | nil => intro c _ _ h; exact absurd rfl h
  | cons h kids rest _ ihr =>
    rintro c ⟨l1, l2, l3⟩ ⟨f1, f2⟩ _ u v ⟨u1, u2, rfl, h1, h2⟩ hv
    have he := end_of l1 rfl hk
    simp only [show ¬ ((3 : Int) = 5 ∨ (3 : Int) = 6) by decide, if_false, if_true] at he
    rw [List.append_assoc]
    refine f1 u1 (u2 ++ v) h1 ?_
    by_cases hr : rest.len = 0
    · rw [if_pos hr, if_pos rfl] at he
      have : u2 = [] := by rw [len_nil hr] at h2; exact h2
      subst this
      exact hv.eps (by rw [he]; simp)
    · rw [if_neg hr, if_neg (by omega), Int.toNat_natCast] at he
      exact (ihr _ l3 f2 hr u2 v h2 hv).eps (by rw [he]; simp)
theorem fwd_alt {ns : List Nod} {b : Nat} (hk : (ns.getD b nod0).k = 4) : ∀ (f : Fo) (c F : Nat), f.len ≤ F → Lay ns f c (b : Int) → FwdF ns f c → ∀ u v, (foL f).alt u → Acc ns (2 * b + 1) v → ∃ y, y ∈ altS ns F (c : Int) ∧ Acc ns y (u ++ v) := by
  intro f
  induction f with
  | nil => intro c F _ _ _ u v h; exact h.elim
  | cons h kids rest _ ihr =>
    rintro c F hF ⟨l1, l2, l3⟩ ⟨f1, f2⟩ u v hu hv
    have he := end_of l1 rfl hk
    simp only [show ¬ ((4 : Int) = 5 ∨ (4 : Int) = 6) by decide, show ¬ ((4 : Int) = 3) by decide, if_false] at he
    cases F with
    | zero => simp [Fo.len] at hF
    | succ F =>
      rw [altS, if_neg (by omega), Int.toNat_natCast, getD_eq l1]
      rcases hu with hu | hu
      · exact ⟨2 * c, by simp, f1 u v hu (hv.eps (by rw [he]; simp))⟩
      · have hr : rest.len ≠ 0 := fun h0 => by rw [len_nil h0] at hu; exact hu
        obtain ⟨y, hy, hy2⟩ := ihr (c + 1 + kids.size) F (by simp [Fo.len] at hF; omega) l3 f2 u v hu hv
        exact ⟨y, by simp only [if_neg hr]; exact List.mem_cons_of_mem _ hy, hy2⟩
theorem fwd_star {ns : List Nod} {b c : Nat} {L : List UInt8 → Prop} (h1 : 2 * c ∈ oneS ns (2 * c + 1)) (h2 : 2 * b + 1 ∈ oneS ns (2 * c + 1)) (hf : ∀ u v, L u → Acc ns (2 * c + 1) v → Acc ns (2 * c) (u ++ v)) {u v : List UInt8} (hu : Star L u) (hv : Acc ns (2 * b + 1) v) : Acc ns (2 * c + 1) (u ++ v) := by
  induction hu with
  | nil => exact hv.eps h2
  | app h _ ih => rw [List.append_assoc]; exact (hf _ _ h ih).eps h1
theorem fS_has (l : List Sp) (c : Nat) : hasW (fS l) c = inSp l c := by rw [fS_fC]; exact hasW_fC l c
theorem lay_len {ns : List Nod} : ∀ (f : Fo) (b : Nat) (up : Int), Lay ns f b up → f.len ≠ 0 → b + f.len ≤ ns.length := by
  intro f
  induction f with
  | nil => intro b up _ h; exact absurd rfl h
  | cons h kids rest _ ihr =>
    rintro b up ⟨l1, l2, l3⟩ _
    have h1 := (List.getElem?_eq_some_iff.1 l1).1
    simp only [Fo.len]
    by_cases hr : rest.len = 0
    · omega
    · have := ihr _ _ l3 hr; omega
theorem fwd {ns : List Nod} : ∀ (f : Fo) (b : Nat) (up : Int), Lay ns f b up → okF f → FwdF ns f b := by
  intro f
  induction f with
  | nil => intro b up _ _; trivial
  | cons h kids rest ihk ihr =>
    rintro b up ⟨l1, l2, l3⟩ ⟨o1, o2, o3⟩
    refine ⟨?_, ihr _ _ l3 o3⟩
    have K := ihk _ _ l2 o2
    have hkb : (ns.getD b nod0).k = h.k := by rw [getD_eq l1]
    intro u v hu hv
    have hb := one_begin ns b
    unfold beginS at hb
    rw [getD_eq l1] at hb
    simp only at hb
    rcases plain_cases o1 with ⟨rfl, rfl⟩ | ⟨h2, rfl, hs1, hs2⟩ | ⟨h34, hl⟩ | ⟨h567, c, ck, rfl⟩
    · simp only [exL, if_true] at hu
      subst hu
      exact hv.eps (by rw [hb]; simp)
    · simp only [exL, h2, if_true, show ¬ ((2 : Int) = 1) by decide, if_false] at hu
      obtain ⟨c, rfl, hc⟩ := hu
      obtain ⟨n, hv⟩ := hv
      exact ⟨n + 1, .byte (by rw [hkb, h2]) (by rw [getD_eq l1]; show hasW (fS h.set) _ = true; rw [fS_has]; exact hc) hv⟩
    · rcases h34 with rfl | rfl
      · simp [exL] at hu
        refine (fwd_cat hkb kids (b + 1) l2 K (by omega) u v hu hv).eps ?_
        rw [hb]; simp
      · simp [exL] at hu
        have := lay_len kids (b + 1) _ l2 (by omega)
        obtain ⟨y, hy, hy2⟩ := fwd_alt hkb kids (b + 1) ns.length (by omega) l2 K u v hu hv
        refine hy2.eps ?_
        rw [hb]
        simpa using hy
    · obtain ⟨m1, _, _⟩ := l2
      obtain ⟨K1, _⟩ := K
      rcases h567 with rfl | rfl | rfl
      · have he := end_of m1 rfl hkb
        simp only [true_or, if_true] at he
        simp [exL, foL] at hu
        cases hu with
        | nil => exact hv.eps (by rw [hb]; simp)
        | app h1 h2 =>
          rw [List.append_assoc]
          exact (K1 _ _ h1 (fwd_star (by rw [he]; simp) (by rw [he]; simp) K1 h2 hv)).eps (by rw [hb]; simp)
      · have he := end_of m1 rfl hkb
        simp only [or_true, if_true] at he
        simp [exL, foL] at hu
        obtain ⟨u1, u2, rfl, h1, h2⟩ := hu
        rw [List.append_assoc]
        exact (K1 _ _ h1 (fwd_star (by rw [he]; simp) (by rw [he]; simp) K1 h2 hv)).eps (by rw [hb]; simp)
      · have he := end_of m1 rfl hkb
        simp at he
        simp [exL, foL] at hu
        rcases hu with rfl | hu
        · exact hv.eps (by rw [hb]; simp)
        · exact (K1 _ _ hu (hv.eps (by rw [he]; simp))).eps (by rw [hb]; simp)
end Go.Proofs.Ytngbfjimmdkfeaa

namespace Go.Proofs.Ytngbfjimmdkfeaa
open Go.RowKit

def BwdE (ns : List Nod) (b : Nat) (h : Hd) (kids : Fo) : Prop := ∀ n s, Pth ns n (2 * b) s 1 → ∃ u v m, m < n ∧ s = u ++ v ∧ exL h (foL kids) u ∧ Pth ns m (2 * b + 1) v 1
def BwdF (ns : List Nod) : Fo → Nat → Prop
  | .nil, _ => True
  | .cons h kids rest, b => BwdE ns b h kids ∧ BwdF ns rest (b + 1 + kids.size)
/-- The first step. -/
theorem pth_step {ns : List Nod} {n x z : Nat} {s : List UInt8} (h : Pth ns n x s z) (hne : x ≠ z) : (∃ m y, n = m + 1 ∧ y ∈ oneS ns x ∧ Pth ns m y s z) ∨ (∃ m i c r, n = m + 1 ∧ x = 2 * i ∧ s = c :: r ∧ (ns.getD i nod0).k = 2 ∧ hasW (ns.getD i nod0).f c.toNat = true ∧ Pth ns m (2 * i + 1) r z) := by
  cases h with
  | nil => exact absurd rfl hne
  | eps hy h => exact .inl ⟨_, _, rfl, hy, h⟩
  | byte hk hc h => exact .inr ⟨_, _, _, _, rfl, rfl, rfl, hk, hc, h⟩
theorem pth_begin {ns : List Nod} {n b : Nat} {s : List UInt8} (h : Pth ns n (2 * b) s 1) : (∃ m y, n = m + 1 ∧ y ∈ oneS ns (2 * b) ∧ Pth ns m y s 1) ∨ (∃ m c r, n = m + 1 ∧ s = c :: r ∧ (ns.getD b nod0).k = 2 ∧ hasW (ns.getD b nod0).f c.toNat = true ∧ Pth ns m (2 * b + 1) r 1) := by
  rcases pth_step h (by omega) with h | ⟨m, i, c, r, e1, e2, e3, hk, hc, h⟩
  · exact .inl h
  · obtain rfl : b = i := by omega
    exact .inr ⟨m, c, r, e1, e3, hk, hc, h⟩
theorem pth_end {ns : List Nod} {n c : Nat} {s : List UInt8} (h : Pth ns n (2 * c + 1) s 1) (hc : c ≠ 0) : ∃ m y, n = m + 1 ∧ y ∈ oneS ns (2 * c + 1) ∧ Pth ns m y s 1 := by
  rcases pth_step h (by omega) with h | ⟨m, i, c', r, e1, e2, _⟩
  · exact h
  · omega
theorem pth_one {ns : List Nod} {n x z : Nat} {s : List UInt8} (h : Pth ns n x s z) (he : oneS ns x = []) (hx : x % 2 = 1) : x = z ∧ s = [] := by
  cases h with
  | nil => exact ⟨rfl, rfl⟩
  | eps hy _ => rw [he] at hy; cases hy
  | byte => omega
theorem bwd_cat {ns : List Nod} {b : Nat} (hk : (ns.getD b nod0).k = 3) : ∀ (f : Fo) (c : Nat), Lay ns f c (b : Int) → BwdF ns f c → f.len ≠ 0 → c ≠ 0 → ∀ n s, Pth ns n (2 * c) s 1 → ∃ u v m, m < n ∧ s = u ++ v ∧ (foL f).cat u ∧ Pth ns m (2 * b + 1) v 1 := by
  intro f
  induction f with
  | nil => intro c _ _ h; exact absurd rfl h
  | cons h kids rest _ ihr =>
    rintro c ⟨l1, l2, l3⟩ ⟨f1, f2⟩ _ hc n s hp
    have he := end_of l1 rfl hk
    simp only [show ¬ ((3 : Int) = 5 ∨ (3 : Int) = 6) by decide, if_false, if_true] at he
    obtain ⟨u, v, m, hm, rfl, hu, hp2⟩ := f1 n s hp
    obtain ⟨m2, y, rfl, hy, hp3⟩ := pth_end hp2 hc
    by_cases hr : rest.len = 0
    · rw [if_pos hr, if_pos rfl] at he
      rw [he] at hy
      simp only [List.mem_singleton] at hy
      subst hy
      exact ⟨u, v, m2, by omega, rfl, ⟨u, [], by simp, hu, by rw [len_nil hr]; rfl⟩, hp3⟩
    · rw [if_neg hr, if_neg (by omega), Int.toNat_natCast] at he
      rw [he] at hy
      simp only [List.mem_singleton] at hy
      subst hy
      obtain ⟨u2, v2, m3, hm3, rfl, hu2, hp4⟩ := ihr _ l3 f2 hr (by omega) m2 v hp3
      exact ⟨u ++ u2, v2, m3, by omega, by simp, ⟨u, u2, rfl, hu, hu2⟩, hp4⟩
theorem bwd_alt {ns : List Nod} {b : Nat} (hk : (ns.getD b nod0).k = 4) : ∀ (f : Fo) (c F : Nat), Lay ns f c (b : Int) → BwdF ns f c → f.len ≠ 0 → c ≠ 0 → ∀ n s y, y ∈ altS ns F (c : Int) → Pth ns n y s 1 → ∃ u v m, m < n ∧ s = u ++ v ∧ (foL f).alt u ∧ Pth ns m (2 * b + 1) v 1 := by
  intro f
  induction f with
  | nil => intro c F _ _ h; exact absurd rfl h
  | cons h kids rest _ ihr =>
    rintro c F ⟨l1, l2, l3⟩ ⟨f1, f2⟩ _ hc n s y hy hp
    have he := end_of l1 rfl hk
    simp only [show ¬ ((4 : Int) = 5 ∨ (4 : Int) = 6) by decide, show ¬ ((4 : Int) = 3) by decide, if_false] at he
    cases F with
    | zero => cases hy
    | succ F =>
      rw [altS, if_neg (by omega), Int.toNat_natCast, getD_eq l1] at hy
      rcases List.mem_cons.1 hy with rfl | hy
      · obtain ⟨u, v, m, hm, rfl, hu, hp2⟩ := f1 n s hp
        obtain ⟨m2, y, rfl, hy, hp3⟩ := pth_end hp2 hc
        rw [he] at hy
        simp only [List.mem_singleton] at hy
        subst hy
        exact ⟨u, v, m2, by omega, rfl, .inl hu, hp3⟩
      · simp only at hy
        by_cases hr : rest.len = 0
        · rw [if_pos hr] at hy
          cases F with
          | zero => cases hy
          | succ F => rw [altS, if_pos rfl] at hy; cases hy
        · rw [if_neg hr] at hy
          obtain ⟨u, v, m, hm, rfl, hu, hp2⟩ := ihr _ F l3 f2 hr (by omega) n s y hy hp
          exact ⟨u, v, m, hm, rfl, .inr hu, hp2⟩
theorem bwd_star {ns : List Nod} {b c : Nat} {L : List UInt8 → Prop} (hc : c ≠ 0) (he : oneS ns (2 * c + 1) = [2 * c, 2 * b + 1]) (hf : ∀ n s, Pth ns n (2 * c) s 1 → ∃ u v m, m < n ∧ s = u ++ v ∧ L u ∧ Pth ns m (2 * c + 1) v 1) : ∀ (N n : Nat) (s : List UInt8), n < N → Pth ns n (2 * c) s 1 → ∃ u1 u2 v m, m < n ∧ s = (u1 ++ u2) ++ v ∧ L u1 ∧ Star L u2 ∧ Pth ns m (2 * b + 1) v 1 := by
  intro N
  induction N with
  | zero => intro n s h; omega
  | succ N ih =>
    intro n s hn hp
    obtain ⟨u, v, m, hm, rfl, hu, hp2⟩ := hf n s hp
    obtain ⟨m2, y, rfl, hy, hp3⟩ := pth_end hp2 hc
    rw [he] at hy
    simp only [List.mem_cons, List.not_mem_nil, or_false] at hy
    rcases hy with rfl | rfl
    · obtain ⟨w1, w2, v2, m3, hm3, rfl, hw1, hw2, hp4⟩ := ih m2 v (by omega) hp3
      exact ⟨u, w1 ++ w2, v2, m3, by omega, by simp, hu, .app hw1 hw2, hp4⟩
    · exact ⟨u, [], v, m2, by omega, by simp, hu, .nil, hp3⟩
theorem bwd {ns : List Nod} : ∀ (f : Fo) (b : Nat) (up : Int), Lay ns f b up → okF f → BwdF ns f b := by
  intro f
  induction f with
  | nil => intro b up _ _; trivial
  | cons h kids rest ihk ihr =>
    rintro b up ⟨l1, l2, l3⟩ ⟨o1, o2, o3⟩
    refine ⟨?_, ihr _ _ l3 o3⟩
    have K := ihk _ _ l2 o2
    have hkb : (ns.getD b nod0).k = h.k := by rw [getD_eq l1]
    intro n s hp
    have hb := one_begin ns b
    unfold beginS at hb
    rw [getD_eq l1] at hb
    simp only at hb
    have hno : h.k ≠ 2 → ∃ m y, n = m + 1 ∧ y ∈ oneS ns (2 * b) ∧ Pth ns m y s 1 := fun h2 => by
      rcases pth_begin hp with h | ⟨_, _, _, _, _, h, _⟩
      · exact h
      · exact absurd (hkb.symm.trans h) h2
    rcases plain_cases o1 with ⟨rfl, rfl⟩ | ⟨h2, rfl, hs1, hs2⟩ | ⟨h34, hl⟩ | ⟨h567, c, ck, rfl⟩
    · obtain ⟨m, y, rfl, hy, hp2⟩ := hno (by decide)
      rw [hb] at hy
      simp at hy
      subst hy
      exact ⟨[], s, m, by omega, rfl, by simp [exL], hp2⟩
    · rcases pth_begin hp with ⟨m, y, rfl, hy, hp2⟩ | ⟨m, c, r, rfl, rfl, hk, hc, hp2⟩
      · rw [hb, h2] at hy
        simp at hy
      · rw [getD_eq l1] at hc
        have hc2 : hasW (fS h.set) c.toNat = true := hc
        rw [fS_has] at hc2
        exact ⟨[c], r, m, by omega, rfl, by simp [exL, h2, hc2], hp2⟩
    · rcases h34 with rfl | rfl
      · obtain ⟨m, y, rfl, hy, hp2⟩ := hno (by decide)
        rw [hb] at hy
        simp at hy
        subst hy
        obtain ⟨u, v, m2, hm, rfl, hu, hp3⟩ := bwd_cat hkb kids (b + 1) l2 K (by omega) (by omega) m s hp2
        exact ⟨u, v, m2, by omega, rfl, by simpa [exL] using hu, hp3⟩
      · obtain ⟨m, y, rfl, hy, hp2⟩ := hno (by decide)
        rw [hb] at hy
        simp at hy
        obtain ⟨u, v, m2, hm, rfl, hu, hp3⟩ := bwd_alt hkb kids (b + 1) ns.length l2 K (by omega) (by omega) m s y (by simpa using hy) hp2
        exact ⟨u, v, m2, by omega, rfl, by simpa [exL] using hu, hp3⟩
    · obtain ⟨m1, _, _⟩ := l2
      obtain ⟨K1, _⟩ := K
      rcases h567 with rfl | rfl | rfl
      · have he := end_of m1 rfl hkb
        simp only [true_or, if_true] at he
        obtain ⟨m, y, rfl, hy, hp2⟩ := hno (by decide)
        rw [hb] at hy
        simp at hy
        rcases hy with rfl | rfl
        · obtain ⟨u1, u2, v, m2, hm, rfl, hu1, hu2, hp3⟩ := bwd_star (by omega) he K1 (m + 1) m s (by omega) hp2
          exact ⟨u1 ++ u2, v, m2, by omega, rfl, by simp [exL, foL]; exact .app hu1 hu2, hp3⟩
        · exact ⟨[], s, m, by omega, rfl, by simp [exL, foL]; exact .nil, hp2⟩
      · have he := end_of m1 rfl hkb
        simp only [or_true, if_true] at he
        obtain ⟨m, y, rfl, hy, hp2⟩ := hno (by decide)
        rw [hb] at hy
        simp at hy
        subst hy
        obtain ⟨u1, u2, v, m2, hm, rfl, hu1, hu2, hp3⟩ := bwd_star (by omega) he K1 (m + 1) m s (by omega) hp2
        exact ⟨u1 ++ u2, v, m2, by omega, rfl, by simp [exL, foL]; exact ⟨u1, u2, rfl, hu1, hu2⟩, hp3⟩
      · have he := end_of m1 rfl hkb
        simp at he
        obtain ⟨m, y, rfl, hy, hp2⟩ := hno (by decide)
        rw [hb] at hy
        simp at hy
        rcases hy with rfl | rfl
        · obtain ⟨u, v, m2, hm, rfl, hu, hp3⟩ := K1 m s hp2
          obtain ⟨m3, y, rfl, hy, hp4⟩ := pth_end hp3 (by omega)
          rw [he] at hy
          simp only [List.mem_singleton] at hy
          subst hy
          exact ⟨u, v, m3, by omega, rfl, by simp [exL, foL]; exact .inr hu, hp4⟩
        · exact ⟨[], s, m, by omega, rfl, by simp [exL, foL], hp2⟩

/-- Match answers true just if the expression matches the text. -/
theorem matchP_is {h : Hd} {kids : Fo} (hc : checkE (Fo.pre 1 (.cons h kids .nil)) ≠ 1) (s : List UInt8) : matchP h kids s = true ↔ mL h kids s := by
  have hpl := checkE_plain hc
  have hok := okF_of_pre _ 1 hpl
  have hlay := nodes_lay h kids
  have hwf : NodWf (nodsE h kids) := nodsP_wf _ hpl
  have hn : 0 < (nodsE h kids).length := (List.getElem?_eq_some_iff.1 hlay.1).1
  unfold matchP
  rw [if_neg hc, loop_is hwf hn s [] _ (now_init hwf hn), List.nil_append]
  constructor
  · intro hr
    obtain ⟨n, hp⟩ := rch_pth hr
    obtain ⟨u, v, m, _, rfl, hu, hp2⟩ := (bwd _ 0 _ hlay hok).1 n s hp
    have he := one_end (nodsE h kids) 0
    unfold endS at he
    rw [getD_eq hlay.1, if_pos rfl] at he
    obtain ⟨_, rfl⟩ := pth_one hp2 he (by omega)
    rw [List.append_nil]
    exact hu
  · intro hm
    obtain ⟨n, hp⟩ := (fwd _ 0 _ hlay hok).1 s [] hm ⟨0, .nil 1⟩
    rw [List.append_nil] at hp
    have := pth_rch hp [] .init
    rwa [List.nil_append] at this
end Go.Proofs.Ytngbfjimmdkfeaa

namespace Go.Proofs.Ytngbfjimmdkfeaa
open Go.RowKit

noncomputable abbrev mE (x : Ex) (l : List UInt8) : Bool := matchP x.h x.k l
abbrev ckX (x : Ex) : Int := checkE (Fo.pre 1 (.cons x.h x.k .nil))
theorem mE_is {x : Ex} (h : ckX x ≠ 1) (l : List UInt8) : mE x l = true ↔ mL x.h x.k l := matchP_is h l
theorem Star.app' {L : List UInt8 → Prop} {u v : List UInt8} (h : Star L u) (k : Star L v) : Star L (u ++ v) := by
  induction h with
  | nil => exact k
  | app h _ ih => rw [List.append_assoc]; exact .app h ih
end Go.Proofs.Ytngbfjimmdkfeaa

