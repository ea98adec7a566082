/- wire.readCount. -/
import Derived.Test.YtahibjiiaocjkaaRd2
namespace Go.Proofs.Ytahibjiiaocjkaa
open Go.RowKit

/-- A count as the program answers it. -/
def cntV : Sum Int (Nat × Nat) → Value
  | .inl e => .tuple #[.int .i64 0, .int .i64 0, .int .i64 e]
  | .inr (n, i) => .tuple #[.int .i64 (n : Int), .int .i64 (i : Int), .int .i64 0]

set_option maxRecDepth 100000 in
theorem cnt_val {n : Nat} (x : UInt8) (hn : n * 128 ≤ 2147483647) : bits .or .i64 ((n : Int) * 128) (wrap64 (bits .andNot .u8 (x.toNat : Int) 128)) = ((n * 128 + x.toNat % 128 : Nat) : Int) := by
  have hx := x.toNat_lt
  have h1 := clear128 ⟨x.toNat, by omega⟩
  simp only at h1
  rw [h1, show wrap64 ((x.toNat % 128 : Nat) : Int) = ((x.toNat % 128 : Nat) : Int) from by unfold wrap64; omega]
  have := bits_join .i64 32 (by decide) wrap_i64_in 7 ((n : Int) * 128) ((x.toNat % 128 : Nat) : Int) (by omega) (by omega) (by omega) (by omega) (by omega) (by omega)
  rw [this]; omega

set_option maxRecDepth 100000 in
set_option maxHeartbeats 1000000 in
theorem readCount_any (a : Option Addr) (cap : Nat) (xs : List UInt8) (w : World) (hb : Bytes w a cap xs) :
    Calls Try.prog 56 #[.slice a xs.length cap] w fun e w' => e = .returned (cntV (rdCnt 0 0 xs)) ∧ w = w' := by
  have hle := hb.le
  have hmx := hb.max
  obtain ⟨L, HL⟩ : ∃ L, Hid (xs.length = L) := ⟨_, Lib.hid rfl⟩
  obtain ⟨R, HR⟩ : ∃ R, Hid (rdCnt 0 0 xs = R) := ⟨_, Lib.hid rfl⟩
  rw [HL.out] at hle ⊢
  rw [HR.out]
  go_enter Try.func56, Try.ntmps56
  go_wp2_with (fail)
  go_loopw [5, 9] (fun nv iv wr => ∃ (k n : Nat), k ≤ L ∧ iv = .int .i64 (k : Int) ∧ nv = .int .i64 (n : Int) ∧ n * 128 ≤ 2147483647 ∧ R = rdCnt n k (xs.drop k) ∧ w = wr) (fun _ i _ => L - (intOf i).toNat)
  case atStart => exact ⟨0, 0, by omega, rfl, rfl, by omega, by rw [HR.out.symm]; rfl, rfl⟩
  case round =>
    obtain ⟨k, n, hk, rfl, rfl, hn, hr, rfl⟩ := hrel
    have Hr := Lib.hid hr
    clear hr
    by_cases hlt : k < L
    · have hlt' : k < xs.length := by rw [HL.out]; exact hlt
      obtain ⟨bb, off, rfl⟩ := hb.at_ k hlt'
      have hc := hb.cell bb off rfl k hlt'
      obtain ⟨x, HX⟩ : ∃ x, Hid (xs[k] = x) := ⟨_, Lib.hid rfl⟩
      rw [HX.out] at hc
      have hv := cnt_val x hn
      obtain ⟨q, HQ⟩ : ∃ q, Hid (n * 128 + x.toNat % 128 = q) := ⟨_, Lib.hid rfl⟩
      rw [HQ.out] at hv
      have hq : q ≤ 2147483647 := by have := HQ.out; omega
      have hx := x.toNat_lt
      have Hstep := Lib.hid (show R = rdCnt n k (x :: xs.drop (k + 1)) by rw [Hr.out, List.drop_eq_getElem_cons hlt', HX.out])
      clear HX hlt'
      by_cases hlo : x.toNat < 128
      · have hlo' : ((x.toNat : Int) < 128) := by omega
        have HR2 : Hid (R = .inr (q, k + 1)) := Lib.hid (by rw [Hstep.out, rdCnt, if_pos hlo, ← HQ.out, Nat.mod_eq_of_lt hlo])
        go_wp2_with (fail)
        exact bodyPost_ret (v := .tuple #[.int .i64 q, .int .i64 (k + 1), .int .i64 0]) (by simp [results, Try.results56, go_sem]; try rfl) rfl ⟨by rw [HR2.out]; simp [cntV], rfl⟩
      · have hlo' : ¬ ((x.toNat : Int) < 128) := by omega
        have hq2 : n * 128 + (x.toNat - 128) = q := by have := HQ.out; omega
        by_cases h0 : q = 0
        · subst h0
          have HR2 : Hid (R = .inl 11) := Lib.hid (by rw [Hstep.out, rdCnt, if_neg hlo, hq2, if_pos (.inl rfl)])
          clear hq2
          go_wp2_with (fail)
          exact bodyPost_ret (v := .tuple #[.int .i64 0, .int .i64 0, .int .i64 11]) (by simp [results, Try.results56, go_sem]; try rfl) rfl ⟨by rw [HR2.out]; simp [cntV], rfl⟩
        · have h0' : ((q : Int) == 0) = false := by simp; omega
          by_cases hbig : 2147483647 < q * 128
          · have hbig' : (2147483647 : Int) < (q : Int) * 128 := by omega
            have HR2 : Hid (R = .inl 11) := Lib.hid (by rw [Hstep.out, rdCnt, if_neg hlo, hq2, if_pos (.inr hbig)])
            clear hq2 h0
            go_wp2_with (fail)
            exact bodyPost_ret (v := .tuple #[.int .i64 0, .int .i64 0, .int .i64 11]) (by simp [results, Try.results56, go_sem]; try rfl) rfl ⟨by rw [HR2.out]; simp [cntV], rfl⟩
          · have hbig' : ¬ (2147483647 : Int) < (q : Int) * 128 := by omega
            have HR2 : Hid (R = rdCnt q (k + 1) (xs.drop (k + 1))) := Lib.hid (by rw [Hstep.out, rdCnt, if_neg hlo, hq2, if_neg (by omega)])
            clear hq2 h0
            go_wp2_with (fail)
            go_roundw
            case rel => exact ⟨k + 1, q, by omega, by go_num, rfl, by omega, HR2.out, trivial⟩
            case measure => simp [intOf]; omega
    · obtain rfl : k = L := by omega
      have HR2 : Hid (R = .inl 10) := Lib.hid (by rw [Hr.out, List.drop_eq_nil_of_le (by rw [HL.out]; exact Nat.le_refl _)]; rfl)
      go_wp2_with (fail)
      exact bodyPost_ret (v := .tuple #[.int .i64 0, .int .i64 0, .int .i64 10]) (by simp [results, Try.results56, go_sem]; try rfl) rfl ⟨by rw [HR2.out]; simp [cntV], rfl⟩
end Go.Proofs.Ytahibjiiaocjkaa
