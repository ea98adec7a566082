/- wire.appendCount and the reference's count write the same bytes. -/
import Derived.Test.YtahibjiiaocjkaaOnly
import Derived.Test.YtahibjiiaocjkaaCount
import Derived.Test.YtahibjiiaocjkaaShelf
import Derived.Test.YtahibjiiaocjkaaOpen3
namespace Go.Proofs.Ytahibjiiaocjkaa
open Go.RowKit

theorem shr7 (n m : Nat) : ((n : Int) / 2 ^ (7 * m) % 256) = ((n / 128 ^ m % 256 : Nat) : Int) := by
  have e : (2 : Int) ^ (7 * m) = ((128 ^ m : Nat) : Int) := by rw [Int.pow_mul]; norm_cast
  rw [e, ← Int.natCast_ediv]
  generalize n / 128 ^ m = q
  omega

theorem low7 (q : Nat) : bits .andNot .u8 ((q % 256 : Nat) : Int) 128 = ((q % 128 : Nat) : Int) := by
  have := clear128 ⟨q % 256, Nat.mod_lt _ (by decide)⟩
  rw [this]
  congr 1
  show q % 256 % 128 = q % 128
  omega

theorem grp_more (n m : Nat) : Value.int .u8 (bits .or .u8 (bits .andNot .u8 ((n : Int) / 2 ^ (7 * m) % 256) 128) 128) = bv (UInt8.ofNat (n / 128 ^ m % 128 + 128)) := by
  rw [shr7, low7]
  have := set128 ⟨n / 128 ^ m % 128, Nat.mod_lt _ (by decide)⟩
  simp only at this
  rw [this, bv, UInt8.toNat_ofNat']
  have h := Nat.mod_lt (n / 128 ^ m) (show 0 < 128 by decide)
  generalize n / 128 ^ m % 128 = q at h
  congr 2
  omega

theorem grp_last (n : Nat) : Value.int .u8 (bits .andNot .u8 ((n : Int) % 256) 128) = bv (UInt8.ofNat (n % 128)) := by
  rw [show ((n : Int) % 256) = ((n % 256 : Nat) : Int) from by omega, low7, bv, UInt8.toNat_ofNat']
  congr 2
  omega

set_option maxRecDepth 100000 in
set_option maxHeartbeats 400000 in
theorem appendCount_any (a : Option Addr) (l c n base : Nat) (ys : List UInt8) (w : World) (ho : OwnB w base a l c ys) (hn : n < 9223372036854775808) (hl : l + 10 ≤ 140737488355328) (hbase : base ≤ w.heap.size) :
    Calls Try.prog 50 #[.slice a l c, .int .i64 (n : Int)] w fun e w' => ∃ a' c', e = .returned (.slice a' (l + (countB n).length) c') ∧ OwnB w' base a' (l + (countB n).length) c' (ys ++ countB n) ∧ Only base 5 w w' := by
  have hg := dig_le hn
  have hcb := Lib.hid (countB_eq hn)
  have HD := Lib.hid (show dig n = max 1 ((Lib.bitLen n + 6) / 7) from rfl)
  have hbl : Lib.bitLen n ≤ 70 := by have := HD.out; omega
  generalize dig n = g at hg hcb HD
  obtain ⟨hg1, hg2⟩ := hg
  go_enter Try.func50, Try.ntmps50
  go_wp2_with (fail)
  refine (Try.bits_Len _ _ (by omega) (by omega)).mono ?_
  rintro e w' ⟨rfl, rfl⟩
  rw [Int.toNat_natCast]
  generalize Lib.bitLen n = B at hbl HD
  go_wp2_with (fail)
  rw [show max 1 (((B : Int) + 7 - 1) / 7) = (g : Int) from by have := HD.out; omega]
  clear HD hbl
  go_loopw [0, 16] (fun o i wr => ∃ k a' c', k ≤ g ∧ i = .int .i64 (k : Nat) ∧ o = .slice a' (l + k) c' ∧ OwnB wr base a' (l + k) c' (ys ++ grpL g n k) ∧ Only base 5 w' wr) (fun _ i _ => g - (intOf i).toNat)
  case atStart => exact ⟨0, a, c, by omega, rfl, rfl, by simpa [grpL] using ho, Only.refl _ _ _⟩
  case round =>
    obtain ⟨k, a', c', hk, rfl, rfl, hown, hgr⟩ := hrel
    by_cases hlt : k < g
    · have hbs := hgr.size
      by_cases hlast : k + 1 < g
      · have Hg := Lib.hid (show grpAt g n k = UInt8.ofNat (n / 128 ^ (g - 1 - k) % 128 + 128) by unfold grpAt; rw [if_pos hlast])
        obtain ⟨a2, c2, w2, hrun, ho2, hg2⟩ := run_append_one wr 31 hown (grpAt g n k) _ ((grp_more n (g - 1 - k)).trans (by rw [Hg.out])) (by omega) (by omega)
        have Hr := Lib.hid hrun
        have hon := hown.only hg2
        clear hrun hg2
        go_wp2_with (at_builtin; refine wpList_append_run rfl _ _ 31 31 rfl _ _ _ _ rfl rfl Hr.out ?_)
        go_roundw
        case rel => exact ⟨k + 1, a2, c2, by omega, by go_num, rfl, by rw [grpL_succ, ← List.append_assoc]; exact ho2, hgr.trans hon⟩
        case measure => simp [intOf]; omega
      · have hk1 : g - 1 - k = 0 := by omega
        have Hg := Lib.hid (show grpAt g n k = UInt8.ofNat (n % 128) by unfold grpAt; rw [if_neg hlast])
        obtain ⟨a2, c2, w2, hrun, ho2, hg2⟩ := run_append_one wr 31 hown (grpAt g n k) _ ((grp_last n).trans (by rw [Hg.out])) (by omega) (by omega)
        have Hr := Lib.hid hrun
        have hon := hown.only hg2
        clear hrun hg2
        go_wp2_with (at_builtin; refine wpList_append_run rfl _ _ 31 31 rfl _ _ _ _ rfl rfl Hr.out ?_)
        go_roundw
        case rel => exact ⟨k + 1, a2, c2, by omega, by go_num, rfl, by rw [grpL_succ, ← List.append_assoc]; exact ho2, hgr.trans hon⟩
        case measure => simp [intOf]; omega
    · obtain rfl : k = g := by omega
      go_wp2
      go_ret
      have hlen : (countB n).length = k := by rw [hcb.out]; simp [grpL]
      exact ⟨a', c', by rw [hlen]; rfl, by rw [hlen, hcb.out]; exact hown, hgr⟩
end Go.Proofs.Ytahibjiiaocjkaa
