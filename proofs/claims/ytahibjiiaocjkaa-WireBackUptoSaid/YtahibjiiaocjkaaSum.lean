/- What the two sums, wire.Sum and the reference's Sum, answer: the register of 'crc'. -/
import Derived.Test.YtahibjiiaocjkaaRows
import Derived.Test.YtahibjiiaocjkaaCrc
import Derived.Test.YtahibjiiaocjkaaBytes
import Derived.WalkKit
import Derived.WalkSpells
import Derived.WalkLawsBesides
import Derived.Outline
namespace Go.Proofs.Ytahibjiiaocjkaa
open Go.RowKit

theorem ret_int {k : IntKind} {a b : Int} (h : a = b) : Ending.returned (.int k a) = .returned (.int k b) := by rw [h]

theorem byte_lt (c : UInt8) : (c.toNat : Int) < 256 := by have := c.toNat_lt; omega

theorem take_snoc {α : Type} (xs : List α) (k : Nat) (h : k < xs.length) : xs.take (k + 1) = xs.take k ++ [xs[k]] := by
  rw [List.take_succ_eq_append_getElem h]

set_option maxRecDepth 100000 in
set_option maxHeartbeats 400000 in
theorem wsum_any (a : Option Addr) (cap : Nat) (xs : List UInt8) (w : World) (hb : Bytes w a cap xs) :
    Calls Try.prog 25 #[.slice a xs.length cap] w fun e w' => e = .returned (.int .u32 ((crc xs).toNat : Int)) ∧ w = w' := by
  have hl := hb.len
  go_enter Try.func25, Try.ntmps25
  go_wp2
  go_loop [3, 5, 8] (fun r _ i => ∃ k : Nat, k ≤ xs.length ∧ i = .int .i64 k ∧ r = .int .u32 ((crcReg crcInit (xs.take k)).toNat : Int)) (fun _ _ i => xs.length - (intOf i).toNat)
  case atStart => exact ⟨0, Nat.zero_le _, rfl, by rw [List.take_zero, crcReg, List.foldl_nil, crcInit_nat]⟩
  case round =>
    obtain ⟨k, hk, rfl, rfl⟩ := hrel
    by_cases hlt : k < xs.length
    · obtain ⟨b, off, rfl⟩ := hb.at_ k hlt
      have hcell := hb.cell b off rfl k hlt
      have HS := Lib.hid (crcReg_snoc crcInit (xs.take k) xs[k])
      have HT := Lib.hid (take_snoc xs k hlt)
      generalize hR : crcReg crcInit (xs.take k) = R at HS ⊢
      clear hR
      have hbx := Lib.hid (byte_in R xs[k])
      have h8 := byte_lt xs[k]
      go_wp2
      rw [hbx.out]
      generalize hY : R ^^^ BitVec.ofNat 32 xs[k].toNat = Y
      have HY := Lib.hid hY
      clear hY
      go_loop [3, 16] (fun r i => ∃ j : Nat, j ≤ 8 ∧ i = .int .i64 j ∧ r = .int .u32 ((crcBits j Y).toNat : Int)) (fun _ i => 8 - (intOf i).toNat)
      case atStart => exact ⟨0, by omega, rfl, rfl⟩
      case round => 
        obtain ⟨j, hj, rfl, rfl⟩ := hrel
        by_cases hlt : j < 8
        · have HJ := Lib.hid (crcBits_snoc j Y)
          generalize hZ : crcBits j Y = Z at HJ ⊢
          clear hZ
          go_wp2
          go_round
          case rel => exact ⟨j + 1, by omega, by go_num, by rw [HJ.out, ← step_prog Z]⟩
          case measure => simp [intOf]; omega
        · obtain rfl : j = 8 := by omega
          go_wp2
          go_round
          case rel => exact ⟨k + 1, by omega, by go_num, by rw [HT.out, HS.out, crcByte, HY.out]⟩
          case measure => simp [intOf]; omega
    · obtain rfl : k = xs.length := by omega
      have hx := Lib.hid (all_turned (crcReg crcInit xs))
      rw [List.take_length]
      generalize hR : crcReg crcInit xs = R at hx ⊢
      have HR := Lib.hid hR; clear hR
      go_wp2
      go_ret
      exact ⟨ret_int (by rw [show IntKind.u32.max = 4294967295 from rfl, hx.out, crc, HR.out]), rfl⟩

set_option maxRecDepth 100000 in
set_option maxHeartbeats 400000 in
theorem rsum_any (a : Option Addr) (cap : Nat) (xs : List UInt8) (w : World) (hb : Bytes w a cap xs) :
    Calls Try.prog 26 #[.slice a xs.length cap] w fun e w' => e = .returned (.int .u32 ((crc xs).toNat : Int)) ∧ w = w' := by
  have hl := hb.len
  go_enter Try.func26, Try.ntmps26
  go_wp2
  go_loop [3, 5, 6, 9] (fun r _ _ i => ∃ k : Nat, k ≤ xs.length ∧ i = .int .i64 k ∧ r = .int .u32 ((crcReg crcInit (xs.take k)).toNat : Int)) (fun _ _ _ i => xs.length - (intOf i).toNat)
  case atStart => exact ⟨0, Nat.zero_le _, rfl, by rw [List.take_zero, crcReg, List.foldl_nil, crcInit_nat]⟩
  case round =>
    obtain ⟨k, hk, rfl, rfl⟩ := hrel
    by_cases hlt : k < xs.length
    · obtain ⟨b, off, rfl⟩ := hb.at_ k hlt
      have hcell := hb.cell b off rfl k hlt
      have HS := Lib.hid (crcReg_snoc crcInit (xs.take k) xs[k])
      have HT := Lib.hid (take_snoc xs k hlt)
      generalize hR : crcReg crcInit (xs.take k) = R at HS ⊢
      clear hR
      have hbx := Lib.hid (byte_in R xs[k])
      have h8 := byte_lt xs[k]
      go_wp2
      rw [hbx.out]
      generalize hY : R ^^^ BitVec.ofNat 32 xs[k].toNat = Y
      have HY := Lib.hid hY
      clear hY
      go_loop [3, 6, 17] (fun r _ i => ∃ j : Nat, j ≤ 8 ∧ i = .int .i64 j ∧ r = .int .u32 ((crcBits j Y).toNat : Int)) (fun _ _ i => 8 - (intOf i).toNat)
      case atStart => exact ⟨0, by omega, rfl, rfl⟩
      case round => 
        obtain ⟨j, hj, rfl, rfl⟩ := hrel
        by_cases hlt : j < 8
        · have HJ := Lib.hid (crcBits_snoc j Y)
          generalize hZ : crcBits j Y = Z at HJ ⊢
          clear hZ
          by_cases hf : (Z.toNat : Int) % 2 = 1
          · have hq : ((Z.toNat : Int) % 2 == 1) = true := by simpa using hf
            have Hf := Lib.hid hf
            clear hf
            go_wp2
            go_round
            case rel => exact ⟨j + 1, by omega, by go_num, by rw [HJ.out, ← step_ref1 Z Hf.out]⟩
            case measure => simp [intOf]; omega
          · have hq : ((Z.toNat : Int) % 2 == 1) = false := by simpa using hf
            have Hf := Lib.hid hf
            clear hf
            go_wp2
            go_round
            case rel => exact ⟨j + 1, by omega, by go_num, by rw [HJ.out, ← step_ref0 Z Hf.out]⟩
            case measure => simp [intOf]; omega
        · obtain rfl : j = 8 := by omega
          go_wp2
          go_round
          case rel => exact ⟨k + 1, by omega, by go_num, by rw [HT.out, HS.out, crcByte, HY.out]⟩
          case measure => simp [intOf]; omega
    · obtain rfl : k = xs.length := by omega
      have hx := Lib.hid (all_turned' (crcReg crcInit xs))
      rw [List.take_length]
      generalize hR : crcReg crcInit xs = R at hx ⊢
      have HR := Lib.hid hR; clear hR
      go_wp2
      go_ret
      exact ⟨ret_int (by rw [hx.out, crc, HR.out]), rfl⟩

theorem wsum_n (a : Option Addr) (n cap : Nat) (xs : List UInt8) (C : Nat) (w : World) (hb : Bytes w a cap xs) (hn : n = xs.length) (hC : C = (crc xs).toNat) :
    Calls Try.prog 25 #[.slice a n cap] w fun e w' => e = .returned (.int .u32 (C : Int)) ∧ w = w' := by
  subst hn; subst hC; exact wsum_any a cap xs w hb
theorem rsum_n (a : Option Addr) (n cap : Nat) (xs : List UInt8) (C : Nat) (w : World) (hb : Bytes w a cap xs) (hn : n = xs.length) (hC : C = (crc xs).toNat) :
    Calls Try.prog 26 #[.slice a n cap] w fun e w' => e = .returned (.int .u32 (C : Int)) ∧ w = w' := by
  subst hn; subst hC; exact rsum_any a cap xs w hb

end Go.Proofs.Ytahibjiiaocjkaa
