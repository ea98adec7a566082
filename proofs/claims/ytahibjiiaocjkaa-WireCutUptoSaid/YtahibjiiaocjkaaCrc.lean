/- Plain mathematics of the sum of layer 1: the register as 32 bits, one step a bit; how the walk's spelling of the two programs' steps comes to it. No program is imported. -/
import Derived.WalkKit
namespace Go.Proofs.Ytahibjiiaocjkaa
open Go.RowKit

/-- The register, shifted by one, and turned where a 1 fell out. -/
def crcBit (r : BitVec 32) : BitVec 32 := if r.getLsbD 0 then (r >>> 1) ^^^ 3988292384#32 else r >>> 1
def crcBits : Nat → BitVec 32 → BitVec 32
  | 0, r => r
  | n + 1, r => crcBits n (crcBit r)
def crcByte (r : BitVec 32) (c : UInt8) : BitVec 32 := crcBits 8 (r ^^^ BitVec.ofNat 32 c.toNat)
def crcReg (r : BitVec 32) (xs : List UInt8) : BitVec 32 := xs.foldl crcByte r
def crcInit : BitVec 32 := 4294967295#32
theorem crcInit_nat : ((crcInit.toNat : Nat) : Int) = 4294967295 := by decide
def crc (xs : List UInt8) : BitVec 32 := ~~~ (crcReg crcInit xs)

theorem crcBits_snoc (n : Nat) (r : BitVec 32) : crcBits (n + 1) r = crcBit (crcBits n r) := by
  induction n generalizing r with
  | zero => rfl
  | succ n ih => rw [crcBits, ih, ← crcBits]

theorem crcReg_snoc (r : BitVec 32) (xs : List UInt8) (c : UInt8) : crcReg r (xs ++ [c]) = crcByte (crcReg r xs) c := by
  simp [crcReg]

theorem ofInt_toNat {k : Nat} (x : BitVec k) : BitVec.ofInt k (x.toNat : Int) = x := by
  rw [BitVec.ofInt_natCast]; simp

theorem bits32_xor (x y : BitVec 32) : bits .xor .u32 (x.toNat : Int) (y.toNat : Int) = ((x ^^^ y).toNat : Int) := by
  have h := (x ^^^ y).isLt
  show IntKind.u32.wrap ((BitVec.ofInt 32 (x.toNat : Int) ^^^ BitVec.ofInt 32 (y.toNat : Int)).toNat : Int) = _
  rw [ofInt_toNat, ofInt_toNat, IntKind.wrap_u32]
  omega

theorem bit0 (x : BitVec 32) : x.getLsbD 0 = decide (x.toNat % 2 = 1) := by
  simp [BitVec.getLsbD, Nat.testBit_zero]

theorem shr1 (x : BitVec 32) : ((x >>> 1).toNat : Int) = (x.toNat : Int) / 2 := by
  simp [BitVec.toNat_ushiftRight, Nat.shiftRight_eq_div_pow]

theorem and1 (x : BitVec 32) : bits .and .u32 (x.toNat : Int) 1 = (x.toNat : Int) % 2 := by
  have h := x.isLt
  have := bits_mask .u32 32 (by decide) (fun n h0 h1 => by rw [IntKind.wrap_u32]; omega) 1 (by decide) (x.toNat : Int) (by omega) (by omega)
  simpa using this

/-- The program's step: a product in place of a branch. -/
theorem step_prog (x : BitVec 32) : bits .xor .u32 ((x.toNat : Int) / 2) (3988292384 * bits .and .u32 (x.toNat : Int) 1 % 4294967296) = ((crcBit x).toNat : Int) := by
  rw [and1]
  by_cases h : x.toNat % 2 = 1
  · have e : ((x.toNat : Int) % 2) = 1 := by omega
    rw [e, ← shr1]
    have e2 : (3988292384 * 1 % 4294967296 : Int) = ((3988292384#32).toNat : Int) := by decide
    rw [e2, bits32_xor]
    unfold crcBit; rw [bit0, decide_eq_true h, if_pos rfl]
  · have e : ((x.toNat : Int) % 2) = 0 := by omega
    rw [e, ← shr1]
    have e2 : (3988292384 * 0 % 4294967296 : Int) = ((0#32).toNat : Int) := by decide
    rw [e2, bits32_xor]
    unfold crcBit; rw [bit0, decide_eq_false h, if_neg (by simp)]; simp

/-- The reference's two ways. -/
theorem step_ref1 (x : BitVec 32) (h : (x.toNat : Int) % 2 = 1) : bits .xor .u32 ((x.toNat : Int) / 2) 3988292384 = ((crcBit x).toNat : Int) := by
  rw [← shr1]
  have e2 : (3988292384 : Int) = ((3988292384#32).toNat : Int) := by decide
  rw [e2, bits32_xor]
  unfold crcBit; rw [bit0, decide_eq_true (by omega), if_pos rfl]
theorem step_ref0 (x : BitVec 32) (h : ¬ (x.toNat : Int) % 2 = 1) : (x.toNat : Int) / 2 = ((crcBit x).toNat : Int) := by
  rw [← shr1]
  unfold crcBit; rw [bit0, decide_eq_false (by omega), if_neg (by simp)]

theorem byte_in (x : BitVec 32) (c : UInt8) : bits .xor .u32 (x.toNat : Int) (c.toNat : Int) = ((x ^^^ BitVec.ofNat 32 c.toNat).toNat : Int) := by
  have h := c.toNat_lt
  have e : ((c.toNat : Nat) : Int) = ((BitVec.ofNat 32 c.toNat).toNat : Int) := by simp
  rw [e, bits32_xor]

theorem all_turned (x : BitVec 32) : bits .xor .u32 4294967295 (x.toNat : Int) = ((~~~ x).toNat : Int) := by
  have e : (4294967295 : Int) = ((4294967295#32).toNat : Int) := by decide
  rw [e, bits32_xor]
  congr 2
theorem all_turned' (x : BitVec 32) : bits .xor .u32 (x.toNat : Int) 4294967295 = ((~~~ x).toNat : Int) := by
  have e : (4294967295 : Int) = ((4294967295#32).toNat : Int) := by decide
  rw [e, bits32_xor, BitVec.xor_comm]
  congr 2
end Go.Proofs.Ytahibjiiaocjkaa
