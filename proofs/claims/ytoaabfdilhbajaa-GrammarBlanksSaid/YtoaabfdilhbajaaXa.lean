/- Layer 7: names, and how lists of names, alternatives and rules lie in memory. -/
import Derived.Test.YtoaabfdilhbajaaMem
import Derived.Test.YtoaabfdilhbajaaAppend
namespace Go.Proofs.Ytoaabfdilhbajaa
open Go.RowKit

def letB (c : UInt8) : Bool := (decide (97 ≤ c.toNat) && decide (c.toNat ≤ 122)) || (decide (65 ≤ c.toNat) && decide (c.toNat ≤ 90)) || decide (c.toNat = 95)
def digB (c : UInt8) : Bool := decide (48 ≤ c.toNat) && decide (c.toNat ≤ 57)
/-- Whether a text is a name. -/
def nameL : List UInt8 → Bool
  | [] => false
  | c :: r => decide (r.length < 32) && !digB c && (c :: r).all (fun d => letB d || digB d)
def nameB (s : ByteArray) : Bool := nameL s.data.toList

/-- A row of values of one cell. -/
structure Vs (w : World) (a : Option Addr) (cap : Nat) (l : List Value) : Prop where
  le : l.length ≤ cap
  max : cap ≤ 9223372036854775807
  nil_ : a = none → cap = 0
  at_ : ∀ i, i < l.length → ∃ b off, a = some ⟨b, off, none⟩
  cell : ∀ b off, a = some ⟨b, off, none⟩ → ∀ i, (h : i < l.length) → w.cell? ⟨b, off + i, none⟩ = some l[i]
theorem cell_up {w w' : World} (hb : Below w.heap.size w w') {b off : Nat} {v : Value} (h : w.cell? ⟨b, off, none⟩ = some v) : w'.cell? ⟨b, off, none⟩ = some v := (hb.cell (p := ⟨b, off, none⟩) (World.block_lt_of_cell? w _ h)).trans h
theorem Vs.grown {w w' : World} {a : Option Addr} {cap : Nat} {l : List Value} (h : Vs w a cap l) (hb : Below w.heap.size w w') : Vs w' a cap l :=
  ⟨h.le, h.max, h.nil_, h.at_, fun b off e i hi => cell_up hb (h.cell b off e i hi)⟩
theorem Vs.nil (w : World) : Vs w none 0 [] := ⟨by simp, by omega, fun _ => rfl, fun i h => by simp at h, fun b off e => by cases e⟩
/-- A list of names. -/
abbrev Nms (w : World) (a : Option Addr) (cap : Nat) (l : List ByteArray) : Prop := Vs w a cap (l.map Value.string)
/-- An alternative: its names, and where they lie. -/
structure AltD where
  l : List ByteArray
  a : Option Addr
  c : Nat
abbrev AltD.v (d : AltD) : Value := .slice d.a d.l.length d.c
structure Alts (w : World) (a : Option Addr) (cap : Nat) (ds : List AltD) : Prop where
  row : Vs w a cap (ds.map AltD.v)
  nms : ∀ d ∈ ds, Nms w d.a d.c d.l
theorem Alts.grown {w w' : World} {a : Option Addr} {cap : Nat} {l : List AltD} (h : Alts w a cap l) (hb : Below w.heap.size w w') : Alts w' a cap l := ⟨h.row.grown hb, fun d hd => (h.nms d hd).grown hb⟩
theorem Alts.nil (w : World) : Alts w none 0 [] := ⟨Vs.nil w, fun d h => by cases h⟩
/-- A rule: its name, its alternatives, and where they lie. -/
structure RlD where
  n : ByteArray
  ds : List AltD
  a : Option Addr
  c : Nat
def RlD.cells (r : RlD) : List Value := [.string r.n, .slice r.a r.ds.length r.c]
/-- Rules, each of two cells. -/
structure Rls (w : World) (a : Option Addr) (cap : Nat) (rs : List RlD) : Prop where
  le : rs.length ≤ cap
  max : cap ≤ 9223372036854775807
  nil_ : a = none → cap = 0
  at_ : ∀ i, i < rs.length → ∃ b off, a = some ⟨b, off, none⟩
  cell : ∀ b off, a = some ⟨b, off, none⟩ → ∀ i, (h : i < rs.length) → w.cell? ⟨b, off + i * 2, none⟩ = some (.string rs[i].n) ∧ w.cell? ⟨b, off + i * 2 + 1, none⟩ = some (.slice rs[i].a rs[i].ds.length rs[i].c)
  alts : ∀ r ∈ rs, Alts w r.a r.c r.ds
theorem Rls.grown {w w' : World} {a : Option Addr} {cap : Nat} {rs : List RlD} (h : Rls w a cap rs) (hb : Below w.heap.size w w') : Rls w' a cap rs :=
  ⟨h.le, h.max, h.nil_, h.at_, fun b off e i hi => ⟨cell_up hb (h.cell b off e i hi).1, cell_up hb (h.cell b off e i hi).2⟩, fun r hr => (h.alts r hr).grown hb⟩
theorem Rls.nil (w : World) : Rls w none 0 [] := ⟨by simp, by omega, fun _ => rfl, fun i h => by simp at h, fun b off e => (by cases e), fun r h => (by cases h)⟩
/-- A rule, without where it lies. -/
abbrev Rl := ByteArray × List (List ByteArray)
def RlD.p (r : RlD) : Rl := (r.n, r.ds.map AltD.l)
def grP (rs : List RlD) : List Rl := rs.map RlD.p

/-- The states of the reader: ahead of a name, behind it, in an alternative. -/
structure Rst where
  rules : List Rl
  place : Nat
/-- Put at the end of the last alternative of the last rule. -/
def addLast {α : Type} (f : α → α) : List α → List α
  | [] => []
  | [x] => [f x]
  | x :: y :: r => x :: addLast f (y :: r)
def takeP (s : Rst) (w : ByteArray) : Option Rst :=
  if s.place = 0 ∧ nameB w then some ⟨s.rules ++ [(w, [])], 1⟩
  else if s.place = 1 ∧ w.data.toList = [61] then some ⟨addLast (fun r => (r.1, r.2 ++ [[]])) s.rules, 2⟩
  else if s.place = 2 ∧ nameB w then some ⟨addLast (fun r => (r.1, addLast (fun a => a ++ [w]) r.2)) s.rules, 2⟩
  else if s.place = 2 ∧ w.data.toList = [124] then some ⟨addLast (fun r => (r.1, r.2 ++ [[]])) s.rules, 2⟩
  else if s.place = 2 ∧ w.data.toList = [59] then some ⟨s.rules, 0⟩
  else none
/-- How many bytes are blanks and remarks. -/
def blkL : Bool → List UInt8 → Nat
  | _, [] => 0
  | false, c :: r => if c.toNat = 32 ∨ c.toNat = 9 ∨ c.toNat = 10 ∨ c.toNat = 13 then 1 + blkL false r else if c.toNat = 35 then 1 + blkL true r else 0
  | true, c :: r => if c.toNat = 10 then 1 + blkL false r else 1 + blkL true r
/-- How long the word is that begins here. -/
def wrdL : List UInt8 → Nat
  | [] => 0
  | c :: r => if letB c then 1 + (r.takeWhile (fun d => letB d || digB d)).length else 1
theorem blkL_le : ∀ (b : Bool) (l : List UInt8), blkL b l ≤ l.length
  | _, [] => by cases ‹Bool› <;> simp [blkL]
  | false, c :: r => by
    have h1 := blkL_le false r
    have h2 := blkL_le true r
    unfold blkL
    split <;> (try split) <;> simp <;> omega
  | true, c :: r => by
    have h1 := blkL_le false r
    have h2 := blkL_le true r
    unfold blkL
    split <;> simp <;> omega
theorem wrdL_le (l : List UInt8) : wrdL l ≤ l.length := by
  cases l with
  | nil => simp [wrdL]
  | cons c r =>
    have := (List.takeWhile_sublist (p := fun d => letB d || digB d) (l := r)).length_le
    rw [wrdL]
    split <;> simp <;> omega
theorem wrdL_pos (c : UInt8) (r : List UInt8) : 0 < wrdL (c :: r) := by rw [wrdL]; split <;> omega
end Go.Proofs.Ytoaabfdilhbajaa
