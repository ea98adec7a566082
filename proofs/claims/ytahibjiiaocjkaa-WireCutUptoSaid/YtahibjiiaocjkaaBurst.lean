/- Plain mathematics of WireBursts: what turns within 32 bits side by side turns the check. No program is imported. -/
import Derived.Test.YtahibjiiaocjkaaCrc
namespace Go.Proofs.Ytahibjiiaocjkaa

def stream (xs : List UInt8) (p : Nat) : Bool := (xs.getD (p / 8) 0).toNat.testBit (p % 8)
def bit1 (b : Bool) : BitVec 32 := if b then 1#32 else 0#32
/-- The register behind n bits. -/
def reg (s : Nat → Bool) (r : BitVec 32) : Nat → BitVec 32
  | 0 => r
  | n + 1 => crcBit (reg s r n ^^^ bit1 (s n))

theorem crcBit_xor (x y : BitVec 32) : crcBit (x ^^^ y) = crcBit x ^^^ crcBit y := by
  unfold crcBit
  rw [BitVec.getLsbD_xor, BitVec.ushiftRight_xor_distrib]
  cases x.getLsbD 0 <;> cases y.getLsbD 0 <;> simp
  · ac_rfl
  · ac_rfl
  · generalize x >>> 1 = u
    generalize y >>> 1 = v
    have : u ^^^ 3988292384#32 ^^^ (v ^^^ 3988292384#32) = u ^^^ v ^^^ (3988292384#32 ^^^ 3988292384#32) := by ac_rfl
    rw [this, BitVec.xor_self, BitVec.xor_zero]
theorem crcBit_zero : crcBit 0#32 = 0#32 := by decide
theorem crcBit_inj {x : BitVec 32} (h : crcBit x = 0#32) : x = 0#32 := by
  unfold crcBit at h
  split at h
  · exfalso
    have := congrArg (fun z => z.getLsbD 31) h
    simp [BitVec.getLsbD_xor, BitVec.getLsbD_ushiftRight] at this
  · rename_i h0
    apply BitVec.eq_of_getLsbD_eq
    intro i hi
    cases i with
    | zero => simpa using h0
    | succ i =>
      have := congrArg (fun z => z.getLsbD i) h
      simpa [BitVec.getLsbD_ushiftRight, Nat.add_comm] using this
theorem crcBit_low (w : BitVec 32) : crcBit w = crcBit (bit1 (w.getLsbD 0)) ^^^ (w >>> 1) := by
  unfold crcBit bit1
  cases w.getLsbD 0 <;> simp
  exact BitVec.xor_comm _ _
theorem bit1_xor (a b : Bool) : bit1 (a ^^ b) = bit1 a ^^^ bit1 b := by cases a <;> cases b <;> simp [bit1]

theorem reg_xor (s t : Nat → Bool) (r q : BitVec 32) (n : Nat) : reg (fun p => s p ^^ t p) (r ^^^ q) n = reg s r n ^^^ reg t q n := by
  induction n with
  | zero => rfl
  | succ n ih =>
    simp only [reg]
    rw [ih, bit1_xor, ← crcBit_xor]
    congr 1
    ac_rfl
theorem reg_congr {s t : Nat → Bool} {r : BitVec 32} {n : Nat} (h : ∀ p, p < n → s p = t p) : reg s r n = reg t r n := by
  induction n with
  | zero => rfl
  | succ n ih => simp only [reg]; rw [ih (fun p hp => h p (by omega)), h n (by omega)]
theorem reg_add (s : Nat → Bool) (r : BitVec 32) (m n : Nat) : reg s r (m + n) = reg (fun p => s (m + p)) (reg s r m) n := by
  induction n with
  | zero => rfl
  | succ n ih => rw [← Nat.add_assoc]; simp only [reg]; rw [ih]
theorem crcBits_zero (n : Nat) : crcBits n 0#32 = 0#32 := by
  induction n with
  | zero => rfl
  | succ n ih => rw [crcBits, crcBit_zero, ih]
theorem crcBits_inj (n : Nat) {x : BitVec 32} (h : crcBits n x = 0#32) : x = 0#32 := by
  induction n generalizing x with
  | zero => exact h
  | succ n ih => exact crcBit_inj (ih h)
theorem crcBits_xor (n : Nat) (x y : BitVec 32) : crcBits n (x ^^^ y) = crcBits n x ^^^ crcBits n y := by
  induction n generalizing x y with
  | zero => rfl
  | succ n ih => rw [crcBits, crcBit_xor, ih]; rfl
theorem reg_none {s : Nat → Bool} {n : Nat} (h : ∀ p, p < n → s p = false) (r : BitVec 32) : reg s r n = crcBits n r := by
  induction n with
  | zero => rfl
  | succ n ih => simp only [reg]; rw [ih (fun p hp => h p (by omega)), h n (by omega), crcBits_snoc]; simp [bit1]
/-- A word's bits, the lowest first, one by one. -/
theorem reg_word {s : Nat → Bool} (w r : BitVec 32) {n : Nat} (h : ∀ p, p < n → s p = w.getLsbD p) : crcBits n (r ^^^ w) = reg s r n ^^^ (w >>> n) := by
  induction n with
  | zero => simp [crcBits, reg]
  | succ n ih =>
    rw [crcBits_snoc, ih (fun p hp => h p (by omega)), crcBit_xor, crcBit_low (w >>> n)]
    simp only [reg]
    rw [crcBit_xor, h n (by omega)]
    rw [show (w >>> n).getLsbD 0 = w.getLsbD n from by simp, show (w >>> n) >>> 1 = w >>> (n + 1) from by rw [← BitVec.shiftRight_add]]
    ac_rfl
theorem crcByte_reg (r : BitVec 32) (c : UInt8) {s : Nat → Bool} (h : ∀ p, p < 8 → s p = c.toNat.testBit p) : crcByte r c = reg s r 8 := by
  have hc := c.toNat_lt
  unfold crcByte
  rw [reg_word (s := s) (BitVec.ofNat 32 c.toNat) r (fun p hp => by rw [h p hp]; simp [BitVec.getLsbD_ofNat]; omega)]
  have : BitVec.ofNat 32 c.toNat >>> 8 = 0#32 := by
    apply BitVec.eq_of_toNat_eq
    simp [Nat.shiftRight_eq_div_pow]
    omega
  rw [this, BitVec.xor_zero]
theorem crcReg_reg (xs : List UInt8) (r : BitVec 32) : crcReg r xs = reg (stream xs) r (8 * xs.length) := by
  induction xs generalizing r with
  | nil => rfl
  | cons c cs ih =>
    rw [show crcReg r (c :: cs) = crcReg (crcByte r c) cs from rfl, ih, List.length_cons, show 8 * (cs.length + 1) = 8 + 8 * cs.length from by omega, reg_add]
    rw [crcByte_reg r c (s := stream (c :: cs)) (fun p hp => by unfold stream; rw [show p / 8 = 0 from by omega, show p % 8 = p from by omega]; rfl)]
    apply reg_congr
    intro p _
    unfold stream
    rw [show (8 + p) / 8 = p / 8 + 1 from by omega, show (8 + p) % 8 = p % 8 from by omega]
    rfl
theorem stream_left (xs ys : List UInt8) {p : Nat} (h : p < 8 * xs.length) : stream (xs ++ ys) p = stream xs p := by
  unfold stream
  rw [List.getD_eq_getElem?_getD, List.getElem?_append_left (by omega), ← List.getD_eq_getElem?_getD]
theorem stream_right (xs ys : List UInt8) (p : Nat) : stream (xs ++ ys) (8 * xs.length + p) = stream ys p := by
  unfold stream
  rw [show (8 * xs.length + p) / 8 = xs.length + p / 8 from by omega, show (8 * xs.length + p) % 8 = p % 8 from by omega]
  rw [List.getD_eq_getElem?_getD, List.getElem?_append_right (by omega), ← List.getD_eq_getElem?_getD]
  congr 3; omega
end Go.Proofs.Ytahibjiiaocjkaa
