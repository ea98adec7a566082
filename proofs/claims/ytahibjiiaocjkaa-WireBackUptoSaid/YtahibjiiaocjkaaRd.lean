/- Reading, as plain functions over lists of bytes; what is read is what was written. No program is walked. -/
import Derived.Test.YtahibjiiaocjkaaRWrite2
namespace Go.Proofs.Ytahibjiiaocjkaa
open Go.RowKit

/-- A count at the front: the number, and how many bytes it has; or the error. -/
def rdCnt : Nat → Nat → List UInt8 → Sum Int (Nat × Nat)
  | _, _, [] => .inl 10
  | n, i, c :: r => if c.toNat < 128 then .inr (n * 128 + c.toNat, i + 1) else
      if n * 128 + (c.toNat - 128) = 0 ∨ 2147483647 < (n * 128 + (c.toNat - 128)) * 128 then .inl 11 else rdCnt (n * 128 + (c.toNat - 128)) (i + 1) r

/-- So many items at the front. -/
def rdList (g : List UInt8 → Sum Int (Hd × Fo × Nat)) : Nat → List UInt8 → Sum Int (Fo × Nat)
  | 0, _ => .inr (.nil, 0)
  | c + 1, xs => match g xs with
    | .inl e => .inl e
    | .inr (h, k, n) => match rdList g c (xs.drop n) with
      | .inl e => .inl e
      | .inr (f, m) => .inr (.cons h k f, n + m)

/-- The number of eight bytes, the highest first, with its sign. -/
def s64 (v : Nat) : Int := if v < 9223372036854775808 then v else (v : Int) - 18446744073709551616

/-- The item at the front, where so many more may stand in one another. -/
def rdItem : Nat → List UInt8 → Sum Int (Hd × Fo × Nat)
  | _, [] => .inl 10
  | 0, _ :: _ => .inl 3
  | d + 1, c :: r =>
    if c = 1 then (if r.length < 8 then .inl 10 else .inr (⟨1, s64 (hiV (r.take 8)), ByteArray.empty⟩, .nil, 9))
    else if c = 2 then (match rdCnt 0 0 r with
      | .inl e => .inl e
      | .inr (n, i) => if r.length < i + n then .inl 10 else .inr (⟨2, 0, ⟨((r.drop i).take n).toArray⟩⟩, .nil, 1 + (i + n)))
    else if c = 3 then (match rdCnt 0 0 r with
      | .inl e => .inl e
      | .inr (n, i) => match rdList (rdItem d) n (r.drop i) with
        | .inl e => .inl e
        | .inr (f, m) => .inr (⟨3, 0, ByteArray.empty⟩, f, 1 + (i + m)))
    else .inl 11

/-! ### Numbers -/
theorem hiV_foldl : ∀ (xs : List UInt8) (v : Nat), xs.foldl (fun v c => v * 256 + c.toNat) v = v * 256 ^ xs.length + hiV xs := by
  intro xs
  induction xs with
  | nil => intro v; simp [hiV]
  | cons c r ih =>
    intro v
    unfold hiV
    simp only [List.foldl_cons, List.length_cons]
    rw [ih (v * 256 + c.toNat), ih (0 * 256 + c.toNat), Nat.pow_succ, Nat.add_mul, Nat.mul_assoc, Nat.zero_mul, Nat.zero_add, Nat.mul_comm 256 (256 ^ r.length)]
    omega
theorem hiV_cons (c : UInt8) (r : List UInt8) : hiV (c :: r) = c.toNat * 256 ^ r.length + hiV r := by
  rw [show hiV (c :: r) = r.foldl (fun v c => v * 256 + c.toNat) (0 * 256 + c.toNat) from rfl, hiV_foldl]
  simp
theorem hiB_add : ∀ (k v a : Nat), hiB k (v + a * 256 ^ k) = hiB k v := by
  intro k
  induction k with
  | zero => intro v a; rfl
  | succ k ih =>
    intro v a
    have hp : 0 < 256 ^ k := Nat.pow_pos (by omega)
    have e : a * 256 ^ (k + 1) = (a * 256) * 256 ^ k := by rw [Nat.pow_succ, Nat.mul_assoc, Nat.mul_comm 256]
    unfold hiB
    rw [e, ih v (a * 256), Nat.add_mul_div_right _ _ hp]
    congr 1
    apply UInt8.toNat_inj.1
    rw [UInt8.toNat_ofNat', UInt8.toNat_ofNat']
    omega
theorem hiB_hiV : ∀ (xs : List UInt8), hiB xs.length (hiV xs) = xs := by
  intro xs
  induction xs with
  | nil => rfl
  | cons c r ih =>
    have hp : 0 < 256 ^ r.length := Nat.pow_pos (by omega)
    have hl := hiV_lt r
    rw [hiV_cons, List.length_cons, hiB, Nat.add_comm, hiB_add, ih]
    congr 1
    rw [Nat.add_mul_div_right _ _ hp, Nat.div_eq_of_lt hl, Nat.zero_add]
    apply UInt8.toNat_inj.1
    rw [UInt8.toNat_ofNat']
    have := c.toNat_lt
    omega
theorem hiV_hiB : ∀ (k v : Nat), v < 256 ^ k → hiV (hiB k v) = v := by
  intro k v h
  have h1 := hiB_hiV (hiB k v)
  rw [hiB_length] at h1
  have h2 := hiB_uniq k _ _ h1
  have h3 := hiV_lt (hiB k v)
  rw [hiB_length] at h3
  rw [Nat.mod_eq_of_lt h3, Nat.mod_eq_of_lt h] at h2
  exact h2
theorem s64_u64N {n : Int} (h : -9223372036854775808 ≤ n ∧ n ≤ 9223372036854775807) : s64 (u64N n) = n := by
  unfold s64 u64N
  split <;> omega
theorem u64N_s64 {v : Nat} (h : v < 18446744073709551616) : u64N (s64 v) = v := by
  unfold s64 u64N
  split <;> omega
theorem s64_fits {v : Nat} (h : v < 18446744073709551616) : -9223372036854775808 ≤ s64 v ∧ s64 v ≤ 9223372036854775807 := by
  unfold s64
  split <;> omega

/-! ### Counts -/
theorem cntF_fuel : ∀ (f n : Nat), n < 128 ^ (f + 1) → cntF (f + 1) n = cntF f n := by
  intro f
  induction f with
  | zero =>
    intro n h
    have h1 : n < 128 := by simpa using h
    unfold cntF
    rw [if_neg (by omega)]
  | succ f ih =>
    intro n h
    rw [show cntF (f + 1 + 1) n = if 128 ≤ n then (cntF (f + 1) (n / 128)).map (· ||| 128) ++ [UInt8.ofNat (n % 128)] else [UInt8.ofNat (n % 128)] from rfl,
      show cntF (f + 1) n = if 128 ≤ n then (cntF f (n / 128)).map (· ||| 128) ++ [UInt8.ofNat (n % 128)] else [UInt8.ofNat (n % 128)] from rfl,
      ih (n / 128) (by rw [Nat.pow_succ] at h; omega)]
set_option maxRecDepth 100000 in
theorem countB_big {n : Nat} (h : 128 ≤ n) (h2 : n < 9223372036854775808) : countB n = (countB (n / 128)).map (· ||| 128) ++ [UInt8.ofNat (n % 128)] := by
  unfold countB
  rw [show cntF 9 n = if 128 ≤ n then (cntF 8 (n / 128)).map (· ||| 128) ++ [UInt8.ofNat (n % 128)] else [UInt8.ofNat (n % 128)] from rfl, if_pos h, cntF_fuel 8 (n / 128) (by omega)]
theorem countB_small {n : Nat} (h : n < 128) : countB n = [UInt8.ofNat n] := by
  unfold countB cntF
  rw [if_neg (by omega), Nat.mod_eq_of_lt h]
theorem map_or_or (l : List UInt8) : (l.map (· ||| 128)).map (· ||| 128) = l.map (· ||| 128) := by
  rw [List.map_map]
  congr 1
  funext c
  exact or128_or c

/-- The groups of a number that others follow. -/
def grpB (n : Nat) : List UInt8 := if n = 0 then [] else (countB n).map (· ||| 128)

theorem grpB_step {n c : Nat} (hc : c < 128) (h0 : n * 128 + c ≠ 0) (hn : n * 128 ≤ 2147483647) : grpB (n * 128 + c) = grpB n ++ [UInt8.ofNat c ||| 128] := by
  unfold grpB
  rw [if_neg h0]
  by_cases h : n = 0
  · subst h
    rw [if_pos rfl, countB_small (by omega)]
    simp
  · rw [if_neg h, countB_big (by omega) (by omega), List.map_append, show (n * 128 + c) / 128 = n from by omega, show (n * 128 + c) % 128 = c from by omega, map_or_or]
    rfl
theorem countB_last {n c : Nat} (hc : c < 128) (hn : n * 128 ≤ 2147483647) : countB (n * 128 + c) = grpB n ++ [UInt8.ofNat c] := by
  unfold grpB
  by_cases h : n = 0
  · subst h
    rw [if_pos rfl, Nat.zero_mul, Nat.zero_add, countB_small hc]
    rfl
  · rw [if_neg h, countB_big (by omega) (by omega), show (n * 128 + c) / 128 = n from by omega, show (n * 128 + c) % 128 = c from by omega]

theorem byte_lo {c : UInt8} : UInt8.ofNat c.toNat = c := UInt8.toNat_inj.1 (by rw [UInt8.toNat_ofNat']; have := c.toNat_lt; omega)
theorem byte_hi {c : UInt8} (h : ¬ c.toNat < 128) : UInt8.ofNat (c.toNat - 128) ||| 128 = c := by
  apply UInt8.toNat_inj.1
  have := c.toNat_lt
  rw [hi_toNat (by omega)]
  omega

/-- What is read as a count is a count's bytes. -/
theorem rdCnt_sound : ∀ (xs : List UInt8) (n i m j : Nat), n * 128 ≤ 2147483647 → rdCnt n i xs = .inr (m, j) → ∃ t, j = i + t ∧ 1 ≤ t ∧ t ≤ xs.length ∧ m ≤ 2147483647 ∧ countB m = grpB n ++ xs.take t := by
  intro xs
  induction xs with
  | nil => intro n i m j _ h; simp [rdCnt] at h
  | cons c r ih =>
    intro n i m j hn h
    unfold rdCnt at h
    have hc := c.toNat_lt
    split at h
    · rename_i hlt
      simp only [Sum.inr.injEq, Prod.mk.injEq] at h
      obtain ⟨rfl, rfl⟩ := h
      refine ⟨1, rfl, by omega, by simp, by omega, ?_⟩
      rw [countB_last hlt hn, byte_lo]
      rfl
    · rename_i hge
      split at h
      · cases h
      · rename_i hok
        obtain ⟨t, rfl, h1, h2, h3, h4⟩ := ih _ _ _ _ (by omega) h
        refine ⟨t + 1, by omega, by omega, by simp; omega, h3, ?_⟩
        rw [h4, grpB_step (by omega) (by omega) hn, byte_hi hge]
        simp

theorem rdCnt_groups : ∀ (N q i : Nat) (zs : List UInt8), q < N → q * 128 ≤ 2147483647 → rdCnt 0 i (grpB q ++ zs) = rdCnt q (i + (grpB q).length) zs := by
  intro N
  induction N with
  | zero => intro q i zs h; omega
  | succ N ih =>
    intro q i zs hq hm
    by_cases h0 : q = 0
    · subst h0; simp [grpB]
    · have e := grpB_step (n := q / 128) (c := q % 128) (Nat.mod_lt _ (by omega)) (by omega) (by omega)
      rw [show q / 128 * 128 + q % 128 = q from by omega] at e
      have hl : q % 128 < 128 := Nat.mod_lt _ (by omega)
      rw [e, List.append_assoc, ih (q / 128) i _ (by omega) (by omega), List.length_append]
      simp only [List.cons_append, List.nil_append]
      rw [rdCnt, hi_toNat hl, if_neg (by omega), show q % 128 + 128 - 128 = q % 128 from by omega, show q / 128 * 128 + q % 128 = q from by omega, if_neg (by omega)]
      rfl
/-- A count that was written is read. -/
theorem rdCnt_back (m : Nat) (zs : List UInt8) (hm : m ≤ 2147483647) : rdCnt 0 0 (countB m ++ zs) = .inr (m, (countB m).length) := by
  have e := countB_last (n := m / 128) (c := m % 128) (Nat.mod_lt _ (by omega)) (by omega)
  rw [show m / 128 * 128 + m % 128 = m from by omega] at e
  have hl : m % 128 < 128 := Nat.mod_lt _ (by omega)
  rw [e, List.append_assoc, rdCnt_groups (m + 1) (m / 128) 0 _ (by omega) (by omega), List.length_append]
  simp only [List.cons_append, List.nil_append]
  rw [rdCnt, lo_toNat hl, if_pos hl, show m / 128 * 128 + m % 128 = m from by omega]
  simp
theorem rdCnt_cutG : ∀ (N q j : Nat), q < N → q * 128 ≤ 2147483647 → rdCnt 0 0 ((grpB q).take j) = .inl 10 := by
  intro N
  induction N with
  | zero => intro q j h; omega
  | succ N ih =>
    intro q j hq hm
    by_cases h0 : q = 0
    · subst h0; simp [grpB, rdCnt]
    · have e := grpB_step (n := q / 128) (c := q % 128) (Nat.mod_lt _ (by omega)) (by omega) (by omega)
      rw [show q / 128 * 128 + q % 128 = q from by omega] at e
      by_cases hj : j ≤ (grpB (q / 128)).length
      · rw [e, List.take_append_of_le_length hj]
        exact ih (q / 128) j (by omega) (by omega)
      · rw [List.take_of_length_le (by rw [e, List.length_append]; simp; omega)]
        have := rdCnt_groups (q + 1) q 0 [] (by omega) hm
        rw [List.append_nil] at this
        rw [this]
        rfl
/-- A count that was cut is short. -/
theorem rdCnt_cut {m j : Nat} (hm : m ≤ 2147483647) (hj : j < (countB m).length) : rdCnt 0 0 ((countB m).take j) = .inl 10 := by
  have e := countB_last (n := m / 128) (c := m % 128) (Nat.mod_lt _ (by omega)) (by omega)
  rw [show m / 128 * 128 + m % 128 = m from by omega] at e
  rw [e] at hj ⊢
  rw [List.length_append] at hj
  rw [List.take_append_of_le_length (by simp at hj; omega)]
  exact rdCnt_cutG (m + 1) (m / 128) j (by omega) (by omega)
end Go.Proofs.Ytahibjiiaocjkaa
