/- putHigh, putLow, high, low: a number's bytes in a block of the call's own; a number out of bytes. -/
import Derived.Test.YtahibjiiaocjkaaSum
import Derived.Test.YtahibjiiaocjkaaMem
namespace Go.Proofs.Ytahibjiiaocjkaa
open Go.RowKit

theorem byte_of (v k : Nat) : ((v : Int) / 2 ^ (8 * k) % 256) = ((UInt8.ofNat (v / 256 ^ k)).toNat : Int) := by
  have e : (2 : Int) ^ (8 * k) = ((256 ^ k : Nat) : Int) := by rw [Int.pow_mul]; norm_cast
  rw [e, UInt8.toNat_ofNat', ← Int.natCast_ediv]
  generalize v / 256 ^ k = m
  omega

theorem bv_of (v k : Nat) : Value.int IntKind.u8 ((v : Int) / 2 ^ (8 * k) % 256) = bv (UInt8.ofNat (v / 256 ^ k)) := by rw [byte_of]

set_option maxRecDepth 100000 in
set_option maxHeartbeats 400000 in
theorem putHigh_any {e : TypeId} (b off n cap : Nat) (v : Nat) (cs : List Value) (w : World) (hn : n ≤ 8) (hv : v < 18446744073709551616) (hfit : off + n ≤ cs.length) (hB : Blk w b e cs) :
    Calls Try.prog 45 #[.slice (some ⟨b, off, none⟩) n cap, .int .u64 (v : Int)] w fun en w' => en = .returned (.tuple #[]) ∧ Blk w' b e (over cs off ((hiB n v).map bv)) ∧ w.grownBy w' (some b) := by
  go_enter Try.func45, Try.ntmps45
  go_wp2
  go_loopw [4, 7] (fun _ i wr => ∃ k : Nat, k ≤ n ∧ i = .int .i64 k ∧ Blk wr b e (over cs (off + (n - k)) ((hiB k v).map bv)) ∧ w.grownBy wr (some b)) (fun _ i _ => n - (intOf i).toNat)
  case atStart => exact ⟨0, by omega, rfl, by simpa [hiB, over_nil] using hB, ⟨rfl, rfl, rfl, Nat.le_refl _, fun _ _ _ => rfl⟩⟩
  case round =>
    obtain ⟨k, hk, rfl, hBr, hg⟩ := hrel
    by_cases hlt : k < n
    · have hL : (over cs (off + (n - k)) ((hiB k v).map bv)).length = cs.length := over_length (by simp [hiB_length]; omega)
      have hcell := hBr.cell (off + (n - 1 - k))
      have hfro := hBr.frozen (off + (n - 1 - k))
      rw [List.getElem?_eq_getElem (by rw [hL]; omega)] at hcell
      clear hB
      go_wp2
      go_roundw
      case rel =>
        refine ⟨k + 1, by omega, by go_num, ?_, grownBy_trans hg (grownBy_set _ _ _ _) (fun i e => .inl e)⟩
        rw [bv_of]
        have h2 := hBr.set (off + (n - 1 - k)) (bv (UInt8.ofNat (v / 256 ^ k)))
        rw [show off + (n - k) = off + (n - 1 - k) + 1 from by omega, over_set_front _ (by simp [hiB_length]; omega)] at h2
        rw [show n - (k + 1) = n - 1 - k from by omega]
        exact h2
      case measure => simp [intOf]; omega
    · obtain rfl : k = n := by omega
      go_wp2
      go_end0
      exact ⟨rfl, by simpa using hBr, hg⟩

set_option maxRecDepth 100000 in
set_option maxHeartbeats 400000 in
theorem putLow_any {e : TypeId} (b off n cap : Nat) (v : Nat) (cs : List Value) (w : World) (hn : n ≤ 8) (hv : v < 18446744073709551616) (hfit : off + n ≤ cs.length) (hB : Blk w b e cs) :
    Calls Try.prog 46 #[.slice (some ⟨b, off, none⟩) n cap, .int .u64 (v : Int)] w fun en w' => en = .returned (.tuple #[]) ∧ Blk w' b e (over cs off ((loB n v).map bv)) ∧ w.grownBy w' (some b) := by
  go_enter Try.func46, Try.ntmps46
  go_wp2
  go_loopw [4, 7] (fun _ i wr => ∃ k : Nat, k ≤ n ∧ i = .int .i64 k ∧ Blk wr b e (over cs off ((loB k v).map bv)) ∧ w.grownBy wr (some b)) (fun _ i _ => n - (intOf i).toNat)
  case atStart => exact ⟨0, by omega, rfl, by simpa [loB, over_nil] using hB, ⟨rfl, rfl, rfl, Nat.le_refl _, fun _ _ _ => rfl⟩⟩
  case round =>
    obtain ⟨k, hk, rfl, hBr, hg⟩ := hrel
    by_cases hlt : k < n
    · have hL : (over cs off ((loB k v).map bv)).length = cs.length := over_length (by simp [loB_length]; omega)
      have hcell := hBr.cell (off + k)
      have hfro := hBr.frozen (off + k)
      rw [List.getElem?_eq_getElem (by rw [hL]; omega)] at hcell
      clear hB
      go_wp2
      go_roundw
      case rel =>
        refine ⟨k + 1, by omega, by go_num, ?_, grownBy_trans hg (grownBy_set _ _ _ _) (fun i e => .inl e)⟩
        rw [bv_of]
        have h2 := hBr.set (off + k) (bv (UInt8.ofNat (v / 256 ^ k)))
        rw [show off + k = off + ((loB k v).map bv).length from by simp [loB_length], over_set_back _ (by simp [loB_length]; omega)] at h2
        simpa [loB, loB_length] using h2
      case measure => simp [intOf]; omega
    · obtain rfl : k = n := by omega
      go_wp2
      go_end0
      exact ⟨rfl, hBr, hg⟩

/-- The number of which these are the bytes, the highest first; the lowest first. -/
def hiV (xs : List UInt8) : Nat := xs.foldl (fun v c => v * 256 + c.toNat) 0
def loV : List UInt8 → Nat
  | [] => 0
  | c :: xs => c.toNat + 256 * loV xs
theorem hiV_snoc (xs : List UInt8) (c : UInt8) : hiV (xs ++ [c]) = hiV xs * 256 + c.toNat := by simp [hiV]
theorem hiV_aux : ∀ (xs : List UInt8) (v : Nat), xs.foldl (fun v c => v * 256 + c.toNat) v < (v + 1) * 256 ^ xs.length := by
  intro xs
  induction xs with
  | nil => intro v; simp
  | cons c xs ih =>
    intro v
    have h := c.toNat_lt
    refine Nat.lt_of_lt_of_le (ih _) ?_
    rw [List.length_cons, Nat.pow_succ, Nat.mul_comm (256 ^ xs.length) 256, ← Nat.mul_assoc]
    exact Nat.mul_le_mul_right _ (show v * 256 + c.toNat + 1 ≤ (v + 1) * 256 by omega)
theorem hiV_lt (xs : List UInt8) : hiV xs < 256 ^ xs.length := by have := hiV_aux xs 0; rw [Nat.zero_add, Nat.one_mul] at this; exact this
theorem loV_snoc (xs : List UInt8) (c : UInt8) : loV (xs ++ [c]) = loV xs + c.toNat * 256 ^ xs.length := by
  induction xs with
  | nil => simp [loV]
  | cons d xs ih =>
    have e : c.toNat * (256 ^ xs.length * 256) = c.toNat * 256 ^ xs.length * 256 := (Nat.mul_assoc _ _ _).symm
    rw [List.cons_append, loV, ih, loV, List.length_cons, Nat.pow_succ, e]; omega
theorem loV_lt : ∀ (xs : List UInt8), loV xs < 256 ^ xs.length := by
  intro xs
  induction xs with
  | nil => simp [loV]
  | cons c xs ih => rw [loV, List.length_cons, Nat.pow_succ]; have := c.toNat_lt; omega

theorem pow256_le {k : Nat} (h : k ≤ 8) : 256 ^ k ≤ 18446744073709551616 := Nat.le_trans (Nat.pow_le_pow_right (by decide) h) (by decide)

theorem wrap_u64 (n : Int) : IntKind.u64.wrap n = n % 18446744073709551616 := by simp [IntKind.wrap, IntKind.bits, IntKind.signed]

theorem join_hi (v : Nat) (c : UInt8) (h : v * 256 + 255 < 18446744073709551616) : bits .or .u64 (IntKind.u64.wrap ((v : Int) * 256)) (c.toNat : Int) = ((v * 256 + c.toNat : Nat) : Int) := by
  have hc := c.toNat_lt
  rw [wrap_u64, Int.emod_eq_of_lt (by omega) (by omega)]
  have := bits_join .u64 64 (by decide) (fun n h0 h1 => by rw [wrap_u64]; omega) 8 ((v : Int) * 256) (c.toNat : Int) (by omega) (by omega) (by omega) (by omega) (by omega) (by omega)
  rw [this]; omega

theorem join_lo (v k : Nat) (c : UInt8) (hk : k < 8) (hv : v < 256 ^ k) : bits .or .u64 (v : Int) (IntKind.u64.wrap ((c.toNat : Int) * 2 ^ (8 * k))) = ((v + c.toNat * 256 ^ k : Nat) : Int) := by
  have hc := c.toNat_lt
  have e : (2 : Int) ^ (8 * k) = ((256 ^ k : Nat) : Int) := by rw [Int.pow_mul]; norm_cast
  have hp : c.toNat * 256 ^ k < 2 ^ 64 := by
    refine Nat.lt_of_lt_of_le (Nat.mul_lt_mul_of_pos_right hc (Nat.pow_pos (by decide))) ?_
    rw [show (256 : Nat) = 2 ^ 8 from rfl, ← Nat.pow_mul, ← Nat.pow_add]
    exact Nat.pow_le_pow_right (by decide) (by omega)
  have hv2 : v < 2 ^ 64 := Nat.lt_of_lt_of_le hv (Nat.le_trans (Nat.pow_le_pow_right (by decide) (by omega : k ≤ 8)) (by decide))
  have hp' : ((c.toNat * 256 ^ k : Nat) : Int) < 18446744073709551616 := by generalize c.toNat * 256 ^ k = m at hp; omega
  rw [e, ← Int.natCast_mul, wrap_u64, Int.emod_eq_of_lt (Int.natCast_nonneg _) hp']
  rw [(bits_nat .u64 64 (by decide) (fun n h0 h1 => by rw [wrap_u64]; omega) v (c.toNat * 256 ^ k) hv2 hp).2]
  have h3 : v < 2 ^ (8 * k) := by rw [Nat.pow_mul]; exact hv
  have h4 := Nat.two_pow_add_eq_or_of_lt h3 c.toNat
  rw [Nat.or_comm, show c.toNat * 256 ^ k = 2 ^ (8 * k) * c.toNat from by rw [Nat.pow_mul, Nat.mul_comm], ← h4, Nat.add_comm]

theorem pow256_mul {k : Nat} (hk : k < 8) {V : Nat} (h : V < 256 ^ k) : V * 256 + 255 < 18446744073709551616 := by
  have : 256 ^ (k + 1) ≤ 18446744073709551616 := pow256_le hk
  rw [Nat.pow_succ] at this
  omega

set_option maxRecDepth 100000 in
set_option maxHeartbeats 400000 in
theorem high_any (a : Option Addr) (cap : Nat) (xs : List UInt8) (w : World) (hb : Bytes w a cap xs) (h8 : xs.length ≤ 8) :
    Calls Try.prog 43 #[.slice a xs.length cap] w fun e w' => e = .returned (.int .u64 (hiV xs : Int)) ∧ w = w' := by
  go_enter Try.func43, Try.ntmps43
  go_wp2
  go_loop [3, 5, 8] (fun r _ i => ∃ k : Nat, k ≤ xs.length ∧ i = .int .i64 k ∧ r = .int .u64 ((hiV (xs.take k) : Nat) : Int)) (fun _ _ i => xs.length - (intOf i).toNat)
  case atStart => exact ⟨0, Nat.zero_le _, rfl, rfl⟩
  case round =>
    obtain ⟨k, hk, rfl, rfl⟩ := hrel
    by_cases hlt : k < xs.length
    · obtain ⟨b, off, rfl⟩ := hb.at_ k hlt
      have hcell := hb.cell b off rfl k hlt
      have hc8 := byte_lt xs[k]
      have HS := Lib.hid (hiV_snoc (xs.take k) xs[k])
      have HT := Lib.hid (take_snoc xs k hlt)
      have hV := Lib.hid (hiV_lt (xs.take k))
      generalize hiV (xs.take k) = V at HS hV ⊢
      go_wp2
      go_round
      case rel => exact ⟨k + 1, by omega, by go_num, by rw [HT.out, HS.out, join_hi V _ (pow256_mul (k := k) (by omega) (by have := hV.out; rwa [List.length_take_of_le hk] at this))]⟩
      case measure => simp [intOf]; omega
    · obtain rfl : k = xs.length := by omega
      rw [List.take_length]
      go_wp2
      go_ret
      exact ⟨rfl, rfl⟩

set_option maxRecDepth 100000 in
set_option maxHeartbeats 400000 in
theorem low_any (a : Option Addr) (cap : Nat) (xs : List UInt8) (w : World) (hb : Bytes w a cap xs) (h8 : xs.length ≤ 8) :
    Calls Try.prog 44 #[.slice a xs.length cap] w fun e w' => e = .returned (.int .u64 (loV xs : Int)) ∧ w = w' := by
  go_enter Try.func44, Try.ntmps44
  go_wp2
  go_loop [3, 4, 5, 8] (fun r _ _ i => ∃ k : Nat, k ≤ xs.length ∧ i = .int .i64 k ∧ r = .int .u64 ((loV (xs.take k) : Nat) : Int)) (fun _ _ _ i => xs.length - (intOf i).toNat)
  case atStart => exact ⟨0, Nat.zero_le _, rfl, rfl⟩
  case round =>
    obtain ⟨k, hk, rfl, rfl⟩ := hrel
    by_cases hlt : k < xs.length
    · obtain ⟨b, off, rfl⟩ := hb.at_ k hlt
      have hcell := hb.cell b off rfl k hlt
      have hc8 := byte_lt xs[k]
      have HS := Lib.hid (loV_snoc (xs.take k) xs[k])
      have HT := Lib.hid (take_snoc xs k hlt)
      have hV := Lib.hid (loV_lt (xs.take k))
      generalize loV (xs.take k) = V at HS hV ⊢
      go_wp2
      go_round
      case rel =>
        have hV' := hV.out
        rw [List.length_take_of_le hk] at hV'
        exact ⟨k + 1, by omega, by go_num, by rw [HT.out, HS.out, List.length_take_of_le hk, join_lo V k _ (by omega) hV']⟩
      case measure => simp [intOf]; omega
    · obtain rfl : k = xs.length := by omega
      rw [List.take_length]
      go_wp2
      go_ret
      exact ⟨rfl, rfl⟩
theorem high_n (a : Option Addr) (n cap V : Nat) (xs : List UInt8) (w : World) (hb : Bytes w a cap xs) (h8 : n ≤ 8) (hn : n = xs.length) (hV : V = hiV xs) :
    Calls Try.prog 43 #[.slice a n cap] w fun e w' => e = .returned (.int .u64 (V : Int)) ∧ w = w' := by
  subst hn; subst hV; exact high_any a cap xs w hb h8
theorem low_n (a : Option Addr) (n cap V : Nat) (xs : List UInt8) (w : World) (hb : Bytes w a cap xs) (h8 : n ≤ 8) (hn : n = xs.length) (hV : V = loV xs) :
    Calls Try.prog 44 #[.slice a n cap] w fun e w' => e = .returned (.int .u64 (V : Int)) ∧ w = w' := by
  subst hn; subst hV; exact low_any a cap xs w hb h8
end Go.Proofs.Ytahibjiiaocjkaa
