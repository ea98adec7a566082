/- WireBursts: the check of what was turned. -/
import Derived.Test.YtahibjiiaocjkaaBurst
import Derived.Test.YtahibjiiaocjkaaOpen
namespace Go.Proofs.Ytahibjiiaocjkaa

theorem loV_bit : ∀ (ys : List UInt8) (p : Nat), (loV ys).testBit p = stream ys p := by
  intro ys
  induction ys with
  | nil => intro p; simp [loV, stream]
  | cons c ys ih =>
    intro p
    have hc : c.toNat < 2 ^ 8 := c.toNat_lt
    rw [show loV (c :: ys) = 2 ^ 8 * loV ys + c.toNat from by simp [loV]; omega, Nat.testBit_two_pow_mul_add _ hc]
    unfold stream
    split
    · rw [show p / 8 = 0 from by omega, show p % 8 = p from by omega]; rfl
    · rw [ih]
      unfold stream
      rw [show p / 8 = (p - 8) / 8 + 1 from by omega, show p % 8 = (p - 8) % 8 from by omega]
      rfl
def good : BitVec 32 := crcBits 32 4294967295#32
theorem xor_eq_ones (r w : BitVec 32) : r ^^^ w = 4294967295#32 ↔ w = ~~~ r := by
  constructor
  · intro h
    have : w = r ^^^ (r ^^^ w) := by rw [← BitVec.xor_assoc, BitVec.xor_self, BitVec.zero_xor]
    rw [this, h, show (4294967295#32) = BitVec.allOnes 32 from rfl, BitVec.xor_allOnes]
  · intro h
    subst h
    rw [show ~~~ r = r ^^^ BitVec.allOnes 32 from (BitVec.xor_allOnes).symm, ← BitVec.xor_assoc, BitVec.xor_self, BitVec.zero_xor]
    rfl
theorem xor_zero_iff {a b : BitVec 32} : a ^^^ b = 0#32 ↔ a = b := by
  constructor
  · intro h
    have : a = a ^^^ b ^^^ b := by rw [BitVec.xor_assoc, BitVec.xor_self, BitVec.xor_zero]
    rw [this, h, BitVec.zero_xor]
  · rintro rfl; exact BitVec.xor_self
theorem check_reg (D s : List UInt8) (hs : s.length = 4) : (crc D).toNat = loV s ↔ reg (stream (D ++ s)) crcInit (8 * D.length + 32) = good := by
  have hl : loV s < 4294967296 := by have := loV_lt s; rw [hs] at this; simpa using this
  rw [reg_add, reg_congr (t := stream D) (fun p hp => stream_left D s hp), ← crcReg_reg]
  have h2 := reg_word (s := fun p => stream (D ++ s) (8 * D.length + p)) (BitVec.ofNat 32 (loV s)) (crcReg crcInit D) (n := 32) (fun p hp => by
    show stream (D ++ s) (8 * D.length + p) = _
    rw [stream_right, ← loV_bit, BitVec.getLsbD_ofNat]
    simp [hp])
  rw [BitVec.ushiftRight_eq_zero (Nat.le_refl _), BitVec.xor_zero] at h2
  rw [← h2]
  unfold good
  rw [← xor_zero_iff (a := crcBits 32 _), ← crcBits_xor]
  have hz : ∀ y : BitVec 32, crcBits 32 y = 0#32 ↔ y = 0#32 := fun y => ⟨crcBits_inj 32, fun h => by rw [h]; exact crcBits_zero 32⟩
  rw [hz, xor_zero_iff, xor_eq_ones]
  unfold crc
  constructor
  · intro h
    rw [← h, BitVec.ofNat_toNat, BitVec.setWidth_eq]
  · intro h
    rw [← h, BitVec.toNat_ofNat, Nat.mod_eq_of_lt hl]

theorem openE_reg (xs : List UInt8) (n : Nat) (hx : xs.length = n + 8) (hn : hiV (xs.take 4) = n) (hm : n ≤ 2147483647) :
    openE xs = if reg (stream xs) crcInit (8 * n + 64) = good then 0 else 12 := by
  have h := check_reg (xs.take (n + 4)) ((xs.drop (n + 4)).take 4) (by simp; omega)
  rw [show xs.take (n + 4) ++ (xs.drop (n + 4)).take 4 = xs from by
    rw [List.take_of_length_le (l := xs.drop (n + 4)) (by simp; omega), List.take_append_drop],
    show (xs.take (n + 4)).length = n + 4 from by simp; omega, show 8 * (n + 4) + 32 = 8 * n + 64 from by omega] at h
  unfold openE
  rw [hn, if_neg (by omega), if_neg (by omega), if_neg (by omega)]
  by_cases hc : (crc (xs.take (n + 4))).toNat = loV ((xs.drop (n + 4)).take 4)
  · rw [if_neg (by simpa using hc), if_pos (h.1 hc)]
  · rw [if_pos (by simpa using hc), if_neg (fun e => hc (h.2 e))]

def flipB (c : UInt8) (j : Nat) : UInt8 := UInt8.ofNat (c.toNat ^^^ 2 ^ j)
theorem flipB_nat (c : UInt8) {j : Nat} (h : j < 8) : (flipB c j).toNat = c.toNat ^^^ 2 ^ j := by
  have : c.toNat ^^^ 2 ^ j < 2 ^ 8 := Nat.xor_lt_two_pow c.toNat_lt (Nat.pow_lt_pow_right (by omega) h)
  unfold flipB
  rw [UInt8.toNat_ofNat']
  omega
def flipAt (xs : List UInt8) (q : Nat) : List UInt8 := xs.set (q / 8) (flipB (xs.getD (q / 8) 0) (q % 8))
theorem stream_flip (xs : List UInt8) {q : Nat} (h : q < 8 * xs.length) (p : Nat) : stream (flipAt xs q) p = (stream xs p ^^ decide (p = q)) := by
  unfold stream flipAt
  rw [List.getD_eq_getElem?_getD, List.getElem?_set]
  by_cases e : q / 8 = p / 8
  · rw [if_pos e, if_pos (by omega), Option.getD_some, flipB_nat _ (by omega), Nat.testBit_xor, Nat.testBit_two_pow, e]
    congr 1
    apply decide_eq_decide.2
    omega
  · rw [if_neg e, ← List.getD_eq_getElem?_getD, decide_eq_false (by omega), Bool.xor_false]

/-- The sealed bytes and the mark, behind k of the burst's bits. -/
def turned (x : List UInt8) (at_ burst bits : Nat) : Nat → List UInt8 × Bool
  | 0 => (x, false)
  | k + 1 => if burst.testBit k = true ∧ at_ + k < bits then (flipAt (turned x at_ burst bits k).1 (32 + at_ + k), true) else turned x at_ burst bits k
theorem turned_length (x : List UInt8) (at_ burst bits k : Nat) : (turned x at_ burst bits k).1.length = x.length := by
  induction k with
  | zero => rfl
  | succ k ih => unfold turned; split <;> simp [flipAt, ih]
theorem turned_take (x : List UInt8) (at_ burst bits k : Nat) : (turned x at_ burst bits k).1.take 4 = x.take 4 := by
  induction k with
  | zero => rfl
  | succ k ih =>
    unfold turned
    split
    · rw [← ih]; unfold flipAt; rw [List.take_set_of_le (by omega)]
    · exact ih
def delta (at_ burst bits k : Nat) (p : Nat) : Bool := decide (32 + at_ ≤ p ∧ p < 32 + at_ + k ∧ p < 32 + bits) && burst.testBit (p - (32 + at_))
theorem turned_stream (x : List UInt8) (at_ burst bits : Nat) (hx : 32 + bits ≤ 8 * x.length) (k p : Nat) : stream (turned x at_ burst bits k).1 p = (stream x p ^^ delta at_ burst bits k p) := by
  induction k with
  | zero => unfold delta; rw [decide_eq_false (by omega)]; simp [turned]
  | succ k ih =>
    unfold turned
    split
    · rename_i h
      rw [stream_flip _ (by rw [turned_length]; omega), ih, Bool.xor_assoc]
      congr 1
      unfold delta
      by_cases e : p = 32 + at_ + k
      · subst e
        rw [decide_eq_false (by omega), decide_eq_true (p := 32 + at_ + k = 32 + at_ + k) rfl, decide_eq_true (by omega)]
        rw [show 32 + at_ + k - (32 + at_) = k from by omega, h.1]; rfl
      · rw [decide_eq_false e, Bool.xor_false]
        congr 1
        apply decide_eq_decide.2; omega
    · rename_i h
      rw [ih]
      congr 1
      unfold delta
      by_cases e : p = 32 + at_ + k
      · subst e
        rw [decide_eq_false (by omega), show 32 + at_ + k - (32 + at_) = k from by omega]
        by_cases hb : at_ + k < bits
        · have : burst.testBit k = false := by cases hk : burst.testBit k with | false => rfl | true => exact absurd ⟨hk, hb⟩ h
          rw [this]; simp
        · rw [decide_eq_false (by omega)]
      · congr 1
        apply decide_eq_decide.2; omega
theorem turned_mark (x : List UInt8) (at_ burst bits k : Nat) : (turned x at_ burst bits k).2 = true ↔ ∃ j, j < k ∧ burst.testBit j = true ∧ at_ + j < bits := by
  induction k with
  | zero => simp [turned]
  | succ k ih =>
    unfold turned
    split
    · rename_i h; simp only [true_iff]; exact ⟨k, by omega, h⟩
    · rename_i h
      rw [ih]
      constructor
      · rintro ⟨j, h1, h2⟩; exact ⟨j, by omega, h2⟩
      · rintro ⟨j, h1, h2⟩
        by_cases e : j = k
        · subst e; exact absurd h2 h
        · exact ⟨j, by omega, h2⟩
/-- The register of what was turned alone is none, just if nothing was turned. -/
theorem delta_reg (at_ burst bits : Nat) (hat : at_ < bits) : reg (delta at_ burst bits 32) 0#32 (32 + bits) = 0#32 ↔ ¬ ∃ j, j < 32 ∧ burst.testBit j = true ∧ at_ + j < bits := by
  constructor
  · rintro h ⟨j, h1, h2, h3⟩
    have hw : reg (delta at_ burst bits 32) 0#32 (32 + at_ + 32) = 0#32 := by
      by_cases hle : 32 + at_ + 32 ≤ 32 + bits
      · rw [show 32 + bits = (32 + at_ + 32) + (bits - at_ - 32) from by omega, reg_add, reg_none (fun p hp => by unfold delta; rw [decide_eq_false (by omega)]; rfl)] at h
        exact crcBits_inj _ h
      · rw [show 32 + at_ + 32 = (32 + bits) + (at_ + 32 - bits) from by omega, reg_add, h, reg_none (fun p hp => by unfold delta; rw [decide_eq_false (by omega)]; rfl)]
        exact crcBits_zero _
    rw [reg_add, reg_none (n := 32 + at_) (fun p hp => by unfold delta; rw [decide_eq_false (by omega)]; rfl), crcBits_zero] at hw
    have h2' := reg_word (s := fun p => delta at_ burst bits 32 (32 + at_ + p)) (BitVec.ofNat 32 (burst % 2 ^ (bits - at_))) 0#32 (n := 32) (fun p hp => by
      show delta at_ burst bits 32 (32 + at_ + p) = _
      rw [BitVec.getLsbD_ofNat, Nat.testBit_mod_two_pow]
      unfold delta
      rw [show 32 + at_ + p - (32 + at_) = p from by omega, decide_eq_true hp, Bool.true_and]
      congr 1
      apply decide_eq_decide.2; omega)
    rw [hw, BitVec.ushiftRight_eq_zero (Nat.le_refl _), BitVec.xor_zero] at h2'
    have h3' := crcBits_inj _ h2'
    rw [BitVec.zero_xor] at h3'
    have := congrArg (fun z => z.getLsbD j) h3'
    simp only [BitVec.getLsbD_ofNat, Nat.testBit_mod_two_pow, h2, h1, BitVec.getLsbD_zero] at this
    simp at this
    omega
  · intro h
    rw [reg_none (fun p hp => ?_), crcBits_zero]
    unfold delta
    by_cases hb : burst.testBit (p - (32 + at_)) = true
    · rw [decide_eq_false (fun hh => h ⟨p - (32 + at_), by omega, hb, by omega⟩)]; rfl
    · rw [Bool.not_eq_true] at hb
      rw [hb, Bool.and_false]
theorem hiV_hiB4 (n : Nat) (hn : n ≤ 2147483647) : hiV (hiB 4 n) = n := by
  simp [hiV, hiB]; omega
theorem loV_loB4 (n : Nat) (hn : n < 4294967296) : loV (loB 4 n) = n := by
  simp [loV, loB]; omega
theorem sealed_length (b : List UInt8) : (sealed b).length = b.length + 8 := by
  simp [sealed, hiB_length, loB_length]; omega
theorem sealed_take (b : List UInt8) : (sealed b).take 4 = hiB 4 b.length := by
  unfold sealed
  rw [List.append_assoc, List.take_left' (hiB_length 4 b.length)]
theorem sealed_reg (b : List UInt8) : reg (stream (sealed b)) crcInit (8 * b.length + 64) = good := by
  have := (check_reg (hiB 4 b.length ++ b) (loB 4 (crc (hiB 4 b.length ++ b)).toNat) (loB_length 4 _)).1 (loV_loB4 _ (crc _).isLt).symm
  rw [show 8 * (hiB 4 b.length ++ b).length + 32 = 8 * b.length + 64 from by rw [List.length_append, hiB_length]; omega] at this
  exact this
/-- What was turned within 32 bits side by side is found; what was not is no fault. -/
theorem burst_found (b : List UInt8) (at_ burst : Nat) (hb : b.length ≤ 2147483647) (hat : at_ < 8 * b.length + 32) :
    openE (turned (sealed b) at_ burst (8 * b.length + 32) 32).1 = if (turned (sealed b) at_ burst (8 * b.length + 32) 32).2 = true then 12 else 0 := by
  have hl := sealed_length b
  rw [openE_reg _ b.length (by rw [turned_length, hl]) (by rw [turned_take, sealed_take, hiV_hiB4 _ hb]) hb]
  rw [reg_congr (fun p _ => turned_stream (sealed b) at_ burst (8 * b.length + 32) (by omega) 32 p)]
  have hx := reg_xor (stream (sealed b)) (delta at_ burst (8 * b.length + 32) 32) crcInit 0#32 (8 * b.length + 64)
  rw [BitVec.xor_zero] at hx
  rw [hx, sealed_reg]
  have hd := delta_reg at_ burst (8 * b.length + 32) hat
  rw [show 32 + (8 * b.length + 32) = 8 * b.length + 64 from by omega] at hd
  have hm := turned_mark (sealed b) at_ burst (8 * b.length + 32) 32
  by_cases hc : (turned (sealed b) at_ burst (8 * b.length + 32) 32).2 = true
  · rw [if_pos hc, if_neg]
    intro h
    refine hd.1 ?_ (hm.1 hc)
    have := congrArg (fun z => good ^^^ z) h
    simpa [← BitVec.xor_assoc] using this
  · rw [if_neg hc, if_pos]
    rw [hd.2 (fun h => hc (hm.2 h)), BitVec.xor_zero]
end Go.Proofs.Ytahibjiiaocjkaa
