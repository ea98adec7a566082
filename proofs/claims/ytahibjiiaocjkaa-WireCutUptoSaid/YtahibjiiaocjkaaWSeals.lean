/- The law WireSeals. -/
import Derived.Test.YtahibjiiaocjkaaLive
namespace Go.Proofs.Ytahibjiiaocjkaa
open Go.RowKit

theorem wseal_n (a : Option Addr) (n cap : Nat) (xs : List UInt8) (w : World) (hb : Bytes w a cap xs) (hn : n = xs.length) (hx : n ≤ 2147483647) :
    Calls Try.prog 27 #[.slice a n cap] w fun e w' => ∃ a' cap', e = .returned (.slice a' (sealed xs).length cap') ∧ OwnB w' w.heap.size a' (sealed xs).length cap' (sealed xs) ∧ Below w.heap.size w w' := by
  subst hn
  exact wseal_any a cap xs w hb hx

theorem opened_abs (xs : List UInt8) : ∃ (V : List UInt8) (K : Nat) (N E : Int), ∀ w e w', Opened xs w e w' → ∃ a' c', e = .returned (.tuple #[.slice a' K c', .int .i64 N, .int .i64 E]) ∧ OwnB w' w.heap.size a' K c' V ∧ Below w.heap.size w w' :=
  ⟨openV xs, (openV xs).length, openN xs, openE xs, fun _ _ _ h => h⟩
theorem sealed_abs (xs : List UInt8) : ∃ (V : List UInt8) (K : Nat), sealed xs = V ∧ (sealed xs).length = K := ⟨_, _, rfl, rfl⟩

set_option maxRecDepth 100000 in
set_option maxHeartbeats 1000000 in
theorem wireSeals_any (a : Option Addr) (n cap : Nat) (xs : List UInt8) (w : World) (hb : Bytes w a cap xs) (hn : n = xs.length) :
    Calls Try.prog 5 #[.slice a n cap] w fun e w' => e = .returned (.bool true) ∧ Below w.heap.size w w' := by
  go_enter Try.func5, Try.ntmps5
  go_wp2_with (fail)
  refine (live_any w).mono ?_
  rintro e w1 ⟨rfl, hb1⟩
  have Hn := Lib.hid hn
  clear hn
  go_wp2_with (fail)
  · exact bodyPost_ret (v := .bool true) (by simp [results, Try.results5, go_sem]; try rfl) rfl ⟨rfl, hb1⟩
  have Hl : Hid (n ≤ 2147483647) := by refine Lib.hid ?_; omega
  obtain ⟨V, K, N, E, HO⟩ := opened_abs xs
  refine (wopen_any a n cap xs w1 (hb.grown hb1) Hn.out).mono ?_
  intro e w2 hop
  obtain ⟨a2, c2, rfl, ho2, hbl2⟩ := HO _ _ _ hop
  clear hop
  have hb2 : Below w.heap.size w w2 := hb1.trans (hbl2.mono hb1.size)
  clear hbl2
  go_wp2_with (fail)
  refine (ropen_any a n cap xs w2 (hb.grown hb2) Hn.out).mono ?_
  intro e w3 hop
  obtain ⟨a3, c3, rfl, ho3, hbl3⟩ := HO _ _ _ hop
  clear hop HO
  have hb3 : Below w.heap.size w w3 := hb2.trans (hbl3.mono hb2.size)
  have hx2 := ho2.bytes.grown hbl3
  have hx3 := ho3.bytes
  have HK := Lib.hid ho2.len
  clear ho2 ho3 hbl3
  go_wp2_with (fail)
  obtain ⟨C, HC⟩ : ∃ C, Hid (C = (crc xs).toNat) := ⟨_, Lib.hid rfl⟩
  refine (wsum_n a n cap xs C w3 (hb.grown hb3) Hn.out HC.out).mono ?_
  rintro e w4 ⟨rfl, rfl⟩
  go_wp2_with (fail)
  refine (rsum_n a n cap xs C w3 (hb.grown hb3) Hn.out HC.out).mono ?_
  rintro e w4 ⟨rfl, rfl⟩
  go_wp2_with (fail)
  refine (wseal_n a n cap xs w3 (hb.grown hb3) Hn.out Hl.out).mono ?_
  rintro e w4 ⟨a4, c4, rfl, ho4, hbl4⟩
  obtain ⟨S, Z, HS, HZ⟩ : ∃ S Z, Hid (sealed xs = S) ∧ Hid (S.length = Z) := ⟨_, _, Lib.hid rfl, Lib.hid rfl⟩
  rw [HS.out] at ho4 ⊢
  rw [HZ.out] at ho4 ⊢
  have hb4 : Below w.heap.size w w4 := hb3.trans (hbl4.mono hb3.size)
  have hx4 := hx2.grown hbl4
  have hx5 := hx3.grown hbl4
  clear hbl4 hx2 hx3
  go_wp2_with (fail)
  refine (rseal_any a n cap xs w4 (hb.grown hb4) Hn.out Hl.out).mono ?_
  rintro e w5 ⟨a5, c5, rfl, ho5, hbl5⟩
  rw [HS.out] at ho5 ⊢
  rw [HZ.out] at ho5 ⊢
  have hb5 : Below w.heap.size w w5 := hb4.trans (hbl5.mono hb4.size)
  have hy4 := hx4.grown hbl5
  have hy5 := hx5.grown hbl5
  have hs4 := ho4.bytes.grown hbl5
  have hs5 := ho5.bytes
  clear hbl5 hx4 hx5 ho4 ho5
  go_wp2_with (fail)
  refine (sameBytes_any a4 a5 Z Z c4 c5 S S w5 hs4 hs5 HZ.out.symm HZ.out.symm).mono ?_
  rintro e w6 ⟨rfl, rfl⟩
  rw [show decide (S = S) = true from by simp]
  go_wp2_with (fail)
  refine (sameBytes_any a2 a3 K K c2 c3 V V w5 hy4 hy5 HK.out HK.out).mono ?_
  rintro e w6 ⟨rfl, rfl⟩
  rw [show decide (V = V) = true from by simp]
  go_wp2_with (fail)
  exact bodyPost_ret (v := .bool true) (by simp [results, Try.results5, go_sem]; try rfl) rfl ⟨rfl, hb5⟩
end Go.Proofs.Ytahibjiiaocjkaa
