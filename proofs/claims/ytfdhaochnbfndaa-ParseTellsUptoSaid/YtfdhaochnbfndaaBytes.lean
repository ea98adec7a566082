/- What a slice of bytes in memory reads as, whoever owns it. No program is imported. -/
import Derived.WalkKit
import Derived.WalkSmall
import Derived.Lib.Hide
namespace Go.Proofs.Ytfdhaochnbfndaa
open Go.RowKit

/-- A byte as the model's value. -/
abbrev bv (c : UInt8) : Value := .int .u8 (c.toNat : Int)

/-- The slice with this address and capacity reads as xs (its length is xs.length). -/
structure Bytes (w : World) (a : Option Addr) (cap : Nat) (xs : List UInt8) : Prop where
  le : xs.length ≤ cap
  max : cap ≤ 9223372036854775807
  at_ : ∀ i, i < xs.length → ∃ b off, a = some ⟨b, off, none⟩
  cell : ∀ b off, a = some ⟨b, off, none⟩ → ∀ i, (h : i < xs.length) → w.cell? ⟨b, off + i, none⟩ = some (bv xs[i])
  nil_ : a = none → cap = 0

theorem Bytes.len {w : World} {a : Option Addr} {cap : Nat} {xs : List UInt8} (h : Bytes w a cap xs) : xs.length ≤ 9223372036854775807 := Nat.le_trans h.le h.max

theorem Bytes.nil (w : World) : Bytes w none 0 [] := ⟨by simp, by omega, fun i h => by simp at h, fun b off h => (by cases h), fun _ => rfl⟩

theorem Bytes.below {w w' : World} {B : Nat} {a : Option Addr} {cap : Nat} {xs : List UInt8} (h : Bytes w a cap xs) (hb : Below B w w') (ha : ∀ b off, a = some ⟨b, off, none⟩ → b < B) : Bytes w' a cap xs :=
  ⟨h.le, h.max, h.at_, fun b off e i hi => (hb.cell (p := ⟨b, off + i, none⟩) (ha b off e)).trans (h.cell b off e i hi), h.nil_⟩

/-- Whatever reads in w reads in every world that has w's blocks as they were. -/
theorem Bytes.grown {w w' : World} {a : Option Addr} {cap : Nat} {xs : List UInt8} (h : Bytes w a cap xs) (hb : Below w.heap.size w w') : Bytes w' a cap xs :=
  ⟨h.le, h.max, h.at_, fun b off e i hi => by
    have hc := h.cell b off e i hi
    have hlt := World.block_lt_of_cell? w _ hc
    exact (hb.cell (p := ⟨b, off + i, none⟩) hlt).trans hc, h.nil_⟩

/-- An owned row of bytes reads. -/
theorem Bytes.own {w : World} {base e : Nat} {xs : List UInt8} {a : Option Addr} {n cap : Nat} (h : w.ownsRow base e 1 (.slice a n cap) n (xs.map bv)) : Bytes w a cap xs ∧ n = xs.length := by
  have hn : n = xs.length := by have := h.1; simpa using this.symm
  subst hn
  rcases h.2 with ⟨e1, e2⟩ | ⟨g, cap', cur, e1, hb, hg, hle, hm, hs, ht⟩
  · have : xs = [] := List.length_eq_zero_iff.1 e2
    subst this
    simp only [Value.slice.injEq] at e1
    obtain ⟨rfl, -, rfl⟩ := e1
    exact ⟨Bytes.nil w, rfl⟩
  · simp only [Value.slice.injEq] at e1
    obtain ⟨rfl, -, rfl⟩ := e1
    refine ⟨⟨hle, by unfold maxLen at hm; omega, fun i _ => ⟨g, 0, rfl⟩, ?_, fun e => by cases e⟩, rfl⟩
    intro b off e i hi
    cases e
    have := h.cellAt i (by omega)
    rw [Nat.zero_add, this]
    simp [hi]

end Go.Proofs.Ytfdhaochnbfndaa
