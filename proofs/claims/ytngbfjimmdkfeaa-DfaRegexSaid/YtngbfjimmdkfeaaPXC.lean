/- Texts joined: Set SetOf Spans SpansF Byte Hex Others Equal Alike. -/
import Derived.Test.YtngbfjimmdkfeaaPXB
import Derived.BigRegion
import Derived.Test.YtngbfjimmdkfeaaPXA
set_option linter.unusedVariables false
set_option linter.unusedSimpArgs false
namespace Go.Proofs.Ytngbfjimmdkfeaa
open Go.RowKit

/-- Whether a byte is in the set that four words hold. -/
def hasW (f : Nat → BitVec 64) (c : Nat) : Bool := (f (c / 64)).getLsbD (c % 64)

theorem bit_at (x : BitVec 64) (r : Nat) : (bits .and .u64 ((x.toNat : Int) / 2 ^ r) 1 == 1) = x.getLsbD r := by
  have h := x.isLt
  have e : ((x.toNat : Int) / 2 ^ r) = ((x.toNat / 2 ^ r : Nat) : Int) := by simp
  have h2 : x.toNat / 2 ^ r < 18446744073709551616 := Nat.lt_of_le_of_lt (Nat.div_le_self _ _) (by omega)
  have := bits_mask .u64 64 (by decide) (fun n h0 h1 => by rw [IntKind.wrap_u64]; omega) 1 (by decide) ((x.toNat / 2 ^ r : Nat) : Int) (Int.natCast_nonneg _) (by omega)
  rw [e]
  rw [show ((1 : Int)) = ((2 ^ 1 - 1 : Nat) : Int) from rfl]
  rw [show bits .and .u64 ((x.toNat / 2 ^ r : Nat) : Int) ((2 ^ 1 - 1 : Nat) : Int) = ((x.toNat / 2 ^ r : Nat) : Int) % 2 from by simpa using this]
  rw [BitVec.getLsbD, Nat.testBit_eq_decide_div_mod_eq]
  by_cases h1 : x.toNat / 2 ^ r % 2 = 1
  · rw [decide_eq_true h1]; simp; omega
  · rw [decide_eq_false h1]; simp; omega

end Go.Proofs.Ytngbfjimmdkfeaa

namespace Go.Proofs.Ytngbfjimmdkfeaa
open Go.RowKit

attribute [local go_sem] Oper.semAt_some

/-- The set with a byte more. -/
def addW (f : Nat → BitVec 64) (c : Nat) : Nat → BitVec 64 := fun i => if i = c / 64 then f i ||| (1#64 <<< (c % 64)) else f i
theorem hasW_add (f : Nat → BitVec 64) (c d : Nat) : hasW (addW f c) d = (hasW f d || decide (d = c)) := by
  unfold hasW addW
  by_cases h : d / 64 = c / 64
  · rw [if_pos h]
    have h2 : d % 64 < 64 := by omega
    have h3 : c % 64 < 64 := by omega
    rw [BitVec.getLsbD_or, BitVec.getLsbD_shiftLeft]
    congr 1
    by_cases e : d % 64 = c % 64
    · have : d = c := by omega
      subst this
      simp [h2]
    · have : ¬ d = c := by omega
      rw [decide_eq_false this]
      by_cases lt : d % 64 < c % 64
      · simp [lt]
      · have : d % 64 - c % 64 ≠ 0 := by omega
        simp [this]
  · rw [if_neg h, decide_eq_false (by intro e; subst e; exact h rfl), Bool.or_false]

theorem or_bit (x : BitVec 64) (r : Nat) (hr : r < 64) : bits .or .u64 (x.toNat : Int) (2 ^ r % 18446744073709551616) = ((x ||| (1#64 <<< r)).toNat : Int) := by
  have hp : (2 ^ r : Nat) < 18446744073709551616 := Nat.lt_of_lt_of_le (Nat.pow_lt_pow_right (by omega) hr) (by omega)
  have e : ((2 : Int) ^ r % 18446744073709551616) = ((1#64 <<< r).toNat : Int) := by
    rw [BitVec.toNat_shiftLeft]
    simp [Nat.shiftLeft_eq]
  rw [e]
  have h := (x ||| (1#64 <<< r)).isLt
  show IntKind.u64.wrap ((BitVec.ofInt 64 (x.toNat : Int) ||| BitVec.ofInt 64 ((1#64 <<< r).toNat : Int)).toNat : Int) = _
  rw [BitVec.ofInt_natCast, BitVec.ofInt_natCast, IntKind.wrap_u64]
  simp only [BitVec.ofNat_toNat, BitVec.setWidth_eq]
  omega

/-- Whether a byte is in one of the spans. -/
def inSp (l : List Sp) (c : Nat) : Bool := l.any fun s => decide (s.lo.toNat ≤ c ∧ c ≤ s.hi.toNat)

theorem inSp_snoc (l : List Sp) (k : Nat) (s : Sp) (h : l[k]? = some s) (c : Nat) : inSp (l.take (k + 1)) c = (inSp (l.take k) c || decide (s.lo.toNat ≤ c ∧ c ≤ s.hi.toNat)) := by
  obtain ⟨hk, e⟩ := List.getElem?_eq_some_iff.1 h
  rw [List.take_add_one, h]
  simp [inSp, e]

end Go.Proofs.Ytngbfjimmdkfeaa

namespace Go.Proofs.Ytngbfjimmdkfeaa
open Go.RowKit

attribute [local go_sem] Oper.semAt_some

end Go.Proofs.Ytngbfjimmdkfeaa

namespace Go.Proofs.Ytngbfjimmdkfeaa
open Go.RowKit

end Go.Proofs.Ytngbfjimmdkfeaa

namespace Go.Proofs.Ytngbfjimmdkfeaa
open Go.RowKit Go.Shelf

attribute [local go_sem] Oper.semAt_some

end Go.Proofs.Ytngbfjimmdkfeaa

namespace Go.Proofs.Ytngbfjimmdkfeaa
open Go.RowKit Go.Shelf

attribute [local go_sem] Oper.semAt_some

end Go.Proofs.Ytngbfjimmdkfeaa

namespace Go.Proofs.Ytngbfjimmdkfeaa
open Go.RowKit

attribute [local go_sem] Oper.semAt_some

end Go.Proofs.Ytngbfjimmdkfeaa

namespace Go.Proofs.Ytngbfjimmdkfeaa
open Go.RowKit

attribute [local go_sem] Oper.semAt_some

end Go.Proofs.Ytngbfjimmdkfeaa

namespace Go.Proofs.Ytngbfjimmdkfeaa
open Go.RowKit

attribute [local go_sem] Oper.semAt_some

/-- Two expressions are alike, but for their lists. -/
def hd3 (h g : Hd) : Bool := (h.k == g.k) && decide (h.set = g.set)
def hdB (h g : Hd) (n m : Nat) : Bool := hd3 h g && decide (n = m)
/-- The same expressions, one by one. -/
def sameB : Fo → Fo → Bool
  | .nil, .nil => true
  | .cons h k r, .cons h' k' r' => hdB h h' k.len k'.len && sameB k k' && sameB r r'
  | _, _ => false

end Go.Proofs.Ytngbfjimmdkfeaa

