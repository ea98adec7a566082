/- Expressions as trees, and what a slice of expressions in memory reads as. No program is imported. -/
import Derived.Test.YtoaabfdilhbajaaMem
namespace Go.Proofs.Ytoaabfdilhbajaa
open Go.RowKit

/-- A span. -/
structure Sp where
  lo : UInt8
  hi : UInt8
deriving DecidableEq

/-- A slice of spans reads as these. -/
structure Sps (w : World) (a : Option Addr) (cap : Nat) (l : List Sp) : Prop where
  le : l.length ≤ cap
  max : cap ≤ 9223372036854775807
  nil_ : a = none → cap = 0
  at_ : ∀ i, i < l.length → ∃ b off, a = some ⟨b, off, none⟩
  cell : ∀ b off, a = some ⟨b, off, none⟩ → ∀ i, (h : i < l.length) → w.cell? ⟨b, off + i * 2, none⟩ = some (.int .u8 (l[i].lo.toNat : Int)) ∧ w.cell? ⟨b, off + i * 2 + 1, none⟩ = some (.int .u8 (l[i].hi.toNat : Int))

theorem Sps.grown {w w' : World} {a : Option Addr} {cap : Nat} {l : List Sp} (h : Sps w a cap l) (hb : Below w.heap.size w w') : Sps w' a cap l := by
  have hc : ∀ b off v, w.cell? ⟨b, off, none⟩ = some v → w'.cell? ⟨b, off, none⟩ = some v := fun b off v h => (hb.cell (p := ⟨b, off, none⟩) (World.block_lt_of_cell? w _ h)).trans h
  exact ⟨h.le, h.max, h.nil_, h.at_, fun b off e i hi => ⟨hc _ _ _ (h.cell b off e i hi).1, hc _ _ _ (h.cell b off e i hi).2⟩⟩
theorem Sps.nil (w : World) : Sps w none 0 [] := ⟨by simp, by omega, fun _ => rfl, fun i h => by simp at h, fun b off e => by cases e⟩

/-- What an expression holds itself. -/
structure Hd where
  k : Int
  set : List Sp

/-- A list of expressions, each with its own list. -/
inductive Fo where
  | nil
  | cons (h : Hd) (kids rest : Fo)

def Fo.len : Fo → Nat
  | .nil => 0
  | .cons _ _ rest => rest.len + 1

/-- How many expressions there are in all. -/
def Fo.size : Fo → Nat
  | .nil => 0
  | .cons _ kids rest => kids.size + rest.size + 1

theorem Fo.len_le (f : Fo) : f.len ≤ f.size := by induction f <;> simp [Fo.len, Fo.size]; omega

/-- The cells from an address on read as these expressions. -/
def Elems (w : World) : Fo → Nat → Nat → Prop
  | .nil, _, _ => True
  | .cons h kids rest, b, off =>
    w.cell? ⟨b, off, none⟩ = some (.int .i64 h.k) ∧ (∃ sa sc, w.cell? ⟨b, off + 1, none⟩ = some (.slice sa h.set.length sc) ∧ Sps w sa sc h.set) ∧
    (∃ a cap, w.cell? ⟨b, off + 2, none⟩ = some (.slice a kids.len cap) ∧ kids.len ≤ cap ∧ cap ≤ 9223372036854775807 ∧ (a = none → cap = 0) ∧ (0 < kids.len → ∃ b' off', a = some ⟨b', off', none⟩ ∧ Elems w kids b' off')) ∧
    Elems w rest b (off + 3)

/-- A slice of expressions. -/
structure Items (w : World) (a : Option Addr) (cap : Nat) (f : Fo) : Prop where
  le : f.len ≤ cap
  max : cap ≤ 9223372036854775807
  nil_ : a = none → cap = 0
  at_ : 0 < f.len → ∃ b off, a = some ⟨b, off, none⟩ ∧ Elems w f b off

theorem Elems.grown {w w' : World} (hb : Below w.heap.size w w') : ∀ (f : Fo) (b off : Nat), Elems w f b off → Elems w' f b off := by
  have hc : ∀ b off v, w.cell? ⟨b, off, none⟩ = some v → w'.cell? ⟨b, off, none⟩ = some v := fun b off v h => (hb.cell (p := ⟨b, off, none⟩) (World.block_lt_of_cell? w _ h)).trans h
  intro f
  induction f with
  | nil => intro b off _; trivial
  | cons h kids rest ihk ihr =>
    rintro b off ⟨h1, ⟨sa, sc, h2, h3⟩, ⟨a, cap, h4, h5, h6, h7, h8⟩, h9⟩
    exact ⟨hc _ _ _ h1, ⟨sa, sc, hc _ _ _ h2, h3.grown hb⟩, ⟨a, cap, hc _ _ _ h4, h5, h6, h7, fun hn => by obtain ⟨b', o', e, hk⟩ := h8 hn; exact ⟨b', o', e, ihk _ _ hk⟩⟩, ihr _ _ h9⟩

theorem Items.grown {w w' : World} {a : Option Addr} {cap : Nat} {f : Fo} (h : Items w a cap f) (hb : Below w.heap.size w w') : Items w' a cap f :=
  ⟨h.le, h.max, h.nil_, fun hn => by obtain ⟨b, o, e, hk⟩ := h.at_ hn; exact ⟨b, o, e, Elems.grown hb f b o hk⟩⟩

theorem Items.nil (w : World) : Items w none 0 .nil := ⟨by simp [Fo.len], by omega, fun _ => rfl, fun h => by simp [Fo.len] at h⟩

/-- An expression as a value. -/
abbrev itemV (h : Hd) (sa : Option Addr) (sc : Nat) (a : Option Addr) (len cap : Nat) : Value := .agg #[.int .i64 h.k, .slice sa h.set.length sc, .slice a len cap]

/-- A node of the walk over all that is in an expression: how deep it stands, what it holds, how many it has. -/
structure Nd where
  d : Nat
  h : Hd
  len : Nat

/-- A list's expressions and all that are in them, each ahead of its own list. -/
def Fo.pre (d : Nat) : Fo → List Nd
  | .nil => []
  | .cons h kids rest => ⟨d, h, kids.len⟩ :: (kids.pre (d + 1) ++ rest.pre d)

theorem Fo.pre_length (f : Fo) : ∀ d, (f.pre d).length = f.size := by
  induction f with
  | nil => intro d; rfl
  | cons h kids rest ihk ihr => intro d; simp [Fo.pre, Fo.size, ihk, ihr]

/-- What is still to come, where these lists are open, the innermost one first. -/
def rem : List Fo → List Nd
  | [] => []
  | f :: fs => f.pre (fs.length + 1) ++ rem fs

/-- Rounds that are still to come. -/
def steps : List Fo → Nat
  | [] => 0
  | f :: fs => 2 * f.size + 1 + steps fs

end Go.Proofs.Ytoaabfdilhbajaa
