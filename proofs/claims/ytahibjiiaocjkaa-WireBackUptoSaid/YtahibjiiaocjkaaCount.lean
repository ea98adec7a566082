/- A count's bytes: the reference's recursion, the program's groups. No program is imported. -/
import Derived.WalkKit
import Derived.Lib.BitFns
import Derived.Test.YtahibjiiaocjkaaBytes
namespace Go.Proofs.Ytahibjiiaocjkaa
open Go.RowKit

/-- The reference's recursion, with fuel. -/
def cntF : Nat → Nat → List UInt8
  | 0, n => [UInt8.ofNat (n % 128)]
  | f + 1, n => if 128 ≤ n then (cntF f (n / 128)).map (· ||| 128) ++ [UInt8.ofNat (n % 128)] else [UInt8.ofNat (n % 128)]
/-- A count's bytes. -/
def countB (n : Nat) : List UInt8 := cntF 9 n

/-- How many groups the program writes. -/
def dig (n : Nat) : Nat := max 1 ((Lib.bitLen n + 6) / 7)
def grpAt (g n i : Nat) : UInt8 := if i + 1 < g then UInt8.ofNat (n / 128 ^ (g - 1 - i) % 128 + 128) else UInt8.ofNat (n % 128)
def grpL (g n k : Nat) : List UInt8 := (List.range k).map (grpAt g n)

theorem bitLen_small : ∀ n : Fin 128, Lib.bitLen n.val ≤ 7 := by decide +kernel
theorem dig_small {n : Nat} (h : n < 128) : dig n = 1 := by
  have := bitLen_small ⟨n, h⟩
  simp only at this
  unfold dig; omega
theorem bitLen_pos {n : Nat} (h : n ≠ 0) (h2 : n < 2 ^ 64) : 1 ≤ Lib.bitLen n := by rw [Lib.bitLen_half n h h2]; omega
theorem dig_big {n : Nat} (h : 128 ≤ n) (h2 : n < 2 ^ 63) : dig n = dig (n / 128) + 1 := by
  have e := Lib.bitLen_shift 7 n h (by omega)
  have p := bitLen_pos (n := n / 128) (by omega) (by omega)
  unfold dig
  rw [e, show (2 : Nat) ^ 7 = 128 from rfl]
  omega

theorem or128 : ∀ m : Fin 128, (UInt8.ofNat m.val ||| 128 = UInt8.ofNat (m.val + 128)) ∧ (UInt8.ofNat (m.val + 128) ||| 128 = UInt8.ofNat (m.val + 128)) := by decide +kernel

theorem grpL_step (g n : Nat) (hg : 1 ≤ g) : grpL (g + 1) n (g + 1) = (grpL g (n / 128) g).map (· ||| 128) ++ [UInt8.ofNat (n % 128)] := by
  unfold grpL
  rw [List.range_succ, List.map_append, List.map_map]
  congr 1
  · apply List.map_congr_left
    intro i hi
    have hi' : i < g := List.mem_range.1 hi
    have e : n / 128 ^ (g + 1 - 1 - i) = n / 128 / 128 ^ (g - 1 - i) := by
      rw [Nat.div_div_eq_div_mul, show g + 1 - 1 - i = (g - 1 - i) + 1 from by omega, Nat.pow_succ, Nat.mul_comm]
    simp only [Function.comp, grpAt]
    rw [if_pos (by omega), e]
    by_cases h : i + 1 < g
    · rw [if_pos h]; exact (or128 ⟨n / 128 / 128 ^ (g - 1 - i) % 128, Nat.mod_lt _ (by decide)⟩).2.symm
    · rw [if_neg h, show g - 1 - i = 0 from by omega, Nat.pow_zero, Nat.div_one]
      exact (or128 ⟨n / 128 % 128, Nat.mod_lt _ (by decide)⟩).1.symm
  · simp [grpAt]

theorem cntF_eq : ∀ (f n : Nat), n < 128 ^ (f + 1) → n < 2 ^ 63 → cntF f n = grpL (dig n) n (dig n) := by
  intro f
  induction f with
  | zero =>
    intro n h _
    rw [dig_small (by simpa using h)]
    simp [cntF, grpL, grpAt]
  | succ f ih =>
    intro n h h2
    by_cases hb : 128 ≤ n
    · rw [cntF, if_pos hb, dig_big hb h2, grpL_step _ _ (by unfold dig; omega), ih (n / 128) (by rw [Nat.div_lt_iff_lt_mul (by decide)]; rwa [Nat.pow_succ] at h) (by omega)]
    · rw [cntF, if_neg hb, dig_small (by omega)]
      simp [grpL, grpAt]

theorem countB_eq {n : Nat} (h : n < 2 ^ 63) : countB n = grpL (dig n) n (dig n) := cntF_eq 9 n (Nat.lt_of_lt_of_le h (by decide)) h

theorem dig_le {n : Nat} (h : n < 2 ^ 63) : 1 ≤ dig n ∧ dig n ≤ 10 := by
  have : ∀ f n, n < 128 ^ (f + 1) → n < 2 ^ 63 → dig n ≤ f + 1 := by
    intro f
    induction f with
    | zero => intro n h _; rw [dig_small (by simpa using h)]; omega
    | succ f ih =>
      intro n h h2
      by_cases hb : 128 ≤ n
      · have := ih (n / 128) (by rw [Nat.div_lt_iff_lt_mul (by decide)]; rwa [Nat.pow_succ] at h) (by omega)
        rw [dig_big hb h2]; omega
      · rw [dig_small (by omega)]; omega
  exact ⟨by unfold dig; omega, this 9 n (Nat.lt_of_lt_of_le h (by decide)) h⟩

theorem countB_length {n : Nat} (h : n < 2 ^ 63) : 1 ≤ (countB n).length ∧ (countB n).length ≤ 10 := by
  rw [countB_eq h]; simp [grpL]; exact dig_le h

theorem grpL_succ (g n k : Nat) : grpL g n (k + 1) = grpL g n k ++ [grpAt g n k] := by simp [grpL, List.range_succ]

theorem clear128 : ∀ m : Fin 256, bits .andNot .u8 (m.val : Int) 128 = ((m.val % 128 : Nat) : Int) := by decide +kernel
theorem set128 : ∀ m : Fin 128, bits .or .u8 (m.val : Int) 128 = ((m.val + 128 : Nat) : Int) := by decide +kernel

end Go.Proofs.Ytahibjiiaocjkaa
