/- Open of both in one word; Seal of the reference. -/
import Derived.Test.YtahibjiiaocjkaaOpen
namespace Go.Proofs.Ytahibjiiaocjkaa
open Go.RowKit

/-- What an Open answers. -/
def Opened (xs : List UInt8) (w : World) (e : Ending) (w' : World) : Prop :=
  ∃ a' cap', e = .returned (.tuple #[.slice a' (openV xs).length cap', .int .i64 (openN xs : Int), .int .i64 (openE xs : Int)]) ∧ OwnB w' w.heap.size a' (openV xs).length cap' (openV xs) ∧ Below w.heap.size w w'

theorem opened_err {xs : List UInt8} {w w' : World} {k : Nat} (h : openE xs = k) (hk : k ≠ 0) (hb : Below w.heap.size w w') : Opened xs w (.returned (.tuple #[.slice none 0 0, .int .i64 0, .int .i64 (k : Int)])) w' := by
  have hv : openV xs = [] := by unfold openV; rw [if_neg (by omega)]
  have hn : openN xs = 0 := by unfold openN; rw [if_neg (by omega)]
  exact ⟨none, 0, by rw [hv, hn, h]; rfl, by rw [hv]; exact OwnB.nil _ _, hb⟩

theorem opened_ok {xs : List UInt8} {w w' : World} {L : Nat} {a' : Option Addr} {cap' : Nat} (h : openE xs = 0) (hL : L = hiV (xs.take 4)) (hl : L + 4 ≤ xs.length) (ho : OwnB w' w.heap.size a' L cap' ((xs.drop 4).take L)) (hb : Below w.heap.size w w') :
    Opened xs w (.returned (.tuple #[.slice a' L cap', .int .i64 ((L + 8 : Nat) : Int), .int .i64 0])) w' := by
  have hv : openV xs = (xs.drop 4).take L := by unfold openV; rw [if_pos h, hL]
  have hn : openN xs = L + 8 := by unfold openN; rw [if_pos h, hL]
  have hl2 : (openV xs).length = L := by rw [hv, List.length_take_of_le (by rw [List.length_drop]; omega)]
  exact ⟨a', cap', by rw [hl2, hn, h]; rfl, by rw [hl2, hv]; exact ho, hb⟩

theorem below_same (w : World) : Below w.heap.size w w := Below.refl _ _

theorem wopen_any (a : Option Addr) (n cap : Nat) (xs : List UInt8) (w : World) (hb : Bytes w a cap xs) (hn : n = xs.length) :
    Calls Try.prog 23 #[.slice a n cap] w (Opened xs w) := by
  by_cases h4 : n < 4
  · refine (wopen_short a n cap xs w hb hn h4).mono ?_
    rintro e w' ⟨rfl, rfl⟩
    exact opened_err (k := 10) (by unfold openE; rw [if_pos (by omega)]) (by decide) (below_same w)
  · obtain ⟨b, off, rfl⟩ := hb.at_ 0 (by omega)
    by_cases h1 : 2147483647 < hiV (xs.take 4)
    · refine (wopen_form b off n cap _ xs w hb hn h4 rfl h1).mono ?_
      rintro e w' ⟨rfl, rfl⟩
      exact opened_err (k := 11) (by unfold openE; rw [if_neg (by omega), if_pos h1]) (by decide) (below_same w)
    · by_cases h2 : n < hiV (xs.take 4) + 8
      · refine (wopen_short2 b off n cap _ xs w hb hn h4 rfl (by omega) h2).mono ?_
        rintro e w' ⟨rfl, rfl⟩
        exact opened_err (k := 10) (by unfold openE; rw [if_neg (by omega), if_neg h1, if_pos (by omega)]) (by decide) (below_same w)
      · by_cases h3 : (crc (xs.take (hiV (xs.take 4) + 4))).toNat = loV ((xs.drop (hiV (xs.take 4) + 4)).take 4)
        · refine (wopen_ok b off n cap _ xs w hb hn h4 rfl (by omega) (by omega) _ _ rfl rfl h3).mono ?_
          rintro e w' ⟨a', cap', rfl, ho, hbl⟩
          exact opened_ok (by unfold openE; rw [if_neg (by omega), if_neg h1, if_neg (by omega), if_neg (by simpa using h3)]) rfl (by omega) ho hbl
        · refine (wopen_sum b off n cap _ xs w hb hn h4 rfl (by omega) (by omega) _ _ rfl rfl (by simpa using h3)).mono ?_
          rintro e w' ⟨rfl, hbl⟩
          exact opened_err (k := 12) (by unfold openE; rw [if_neg (by omega), if_neg h1, if_neg (by omega), if_pos h3]) (by decide) hbl

set_option maxRecDepth 100000 in
set_option maxHeartbeats 400000 in
theorem ropen_short (a : Option Addr) (n cap : Nat) (xs : List UInt8) (w : World) (hb : Bytes w a cap xs) (hn : n = xs.length) (h4 : n < 4) :
    Calls Try.prog 24 #[.slice a n cap] w fun e w' => e = .returned (.tuple #[.slice none 0 0, .int .i64 0, .int .i64 10]) ∧ w = w' := by
  clear hn
  go_enter Try.func24, Try.ntmps24
  go_wp2
  go_ret3
  exact ⟨rfl, rfl⟩

theorem four (xs : List UInt8) (h : 4 ≤ xs.length) : ∃ c0 c1 c2 c3, xs.take 4 = [c0, c1, c2, c3] := by
  match xs, h with
  | c0 :: c1 :: c2 :: c3 :: _, _ => exact ⟨c0, c1, c2, c3, rfl⟩

theorem wrap_i64_in (n : Int) (h0 : 0 ≤ n) (h1 : n < 2 ^ 32) : IntKind.i64.wrap n = n := by rw [IntKind.wrap_i64]; omega

theorem join4 (x0 x1 x2 x3 : UInt8) (L : Nat) (hL : L = hiV [x0, x1, x2, x3]) :
    bits .or .i64 (bits .or .i64 (bits .or .i64 ((x0.toNat : Int) * 16777216) ((x1.toNat : Int) * 65536)) ((x2.toNat : Int) * 256)) (x3.toNat : Int) = (L : Int) := by
  have b0 := x0.toNat_lt
  have b1 := x1.toNat_lt
  have b2 := x2.toNat_lt
  have b3 := x3.toNat_lt
  have e1 : bits .or .i64 ((x0.toNat : Int) * 16777216) ((x1.toNat : Int) * 65536) = (x0.toNat : Int) * 16777216 + (x1.toNat : Int) * 65536 :=
    bits_join .i64 32 (by decide) wrap_i64_in 24 _ _ (by omega) (by omega) (by omega) (by omega) (by omega) (by omega)
  have e2 : bits .or .i64 ((x0.toNat : Int) * 16777216 + (x1.toNat : Int) * 65536) ((x2.toNat : Int) * 256) = (x0.toNat : Int) * 16777216 + (x1.toNat : Int) * 65536 + (x2.toNat : Int) * 256 :=
    bits_join .i64 32 (by decide) wrap_i64_in 16 _ _ (by omega) (by omega) (by omega) (by omega) (by omega) (by omega)
  have e3 : bits .or .i64 ((x0.toNat : Int) * 16777216 + (x1.toNat : Int) * 65536 + (x2.toNat : Int) * 256) (x3.toNat : Int) = (x0.toNat : Int) * 16777216 + (x1.toNat : Int) * 65536 + (x2.toNat : Int) * 256 + (x3.toNat : Int) :=
    bits_join .i64 32 (by decide) wrap_i64_in 8 _ _ (by omega) (by omega) (by omega) (by omega) (by omega) (by omega)
  rw [e1, e2, e3]
  rw [hL]
  simp only [hiV, List.foldl_cons, List.foldl_nil]
  omega

section
variable (b off n cap : Nat) (x0 x1 x2 x3 : UInt8) (L : Nat) (w : World) (h4 : ¬ n < 4)
    (c0 : w.cell? ⟨b, off, none⟩ = some (bv x0)) (c1 : w.cell? ⟨b, off + 1, none⟩ = some (bv x1)) (c2 : w.cell? ⟨b, off + 2, none⟩ = some (bv x2)) (c3 : w.cell? ⟨b, off + 3, none⟩ = some (bv x3))
    (HL : Hid (L = hiV [x0, x1, x2, x3]))
include h4 c0 c1 c2 c3 HL

set_option maxRecDepth 100000 in
set_option maxHeartbeats 400000 in
theorem ropen_form (h1 : 2147483647 < L) :
    Calls Try.prog 24 #[.slice (some ⟨b, off, none⟩) n cap] w fun e w' => e = .returned (.tuple #[.slice none 0 0, .int .i64 0, .int .i64 11]) ∧ Below w.heap.size w w' := by
  have HJ := Lib.hid (join4 x0 x1 x2 x3 L HL.out)
  have b0 := byte_lt x0
  have b1 := byte_lt x1
  have b2 := byte_lt x2
  have b3 := byte_lt x3
  have i0 : (0 : Int) < (n : Int) := by omega
  have i1 : (1 : Int) < (n : Int) := by omega
  have i2 : (2 : Int) < (n : Int) := by omega
  have i3 : (3 : Int) < (n : Int) := by omega
  go_enter Try.func24, Try.ntmps24
  go_wp2
  go_quiet (fail)
  rw [HJ.out]
  go_wp2
  go_ret3
  exact ⟨rfl, below_drewN (Below.refl _ _) _⟩

set_option maxRecDepth 100000 in
set_option maxHeartbeats 400000 in
theorem ropen_short2 (h1 : L ≤ 2147483647) (h2 : n < L + 8) :
    Calls Try.prog 24 #[.slice (some ⟨b, off, none⟩) n cap] w fun e w' => e = .returned (.tuple #[.slice none 0 0, .int .i64 0, .int .i64 10]) ∧ Below w.heap.size w w' := by
  have HJ := Lib.hid (join4 x0 x1 x2 x3 L HL.out)
  have b0 := byte_lt x0
  have b1 := byte_lt x1
  have b2 := byte_lt x2
  have b3 := byte_lt x3
  have i0 : (0 : Int) < (n : Int) := by omega
  have i1 : (1 : Int) < (n : Int) := by omega
  have i2 : (2 : Int) < (n : Int) := by omega
  have i3 : (3 : Int) < (n : Int) := by omega
  go_enter Try.func24, Try.ntmps24
  go_wp2
  go_quiet (fail)
  rw [HJ.out]
  go_wp2
  go_ret3
  exact ⟨rfl, below_drewN (Below.refl _ _) _⟩

set_option maxRecDepth 100000 in
set_option maxHeartbeats 1000000 in
theorem ropen_sum (hle : n ≤ cap) (hm : cap ≤ 9223372036854775807) (h1 : L ≤ 2147483647) (h2 : L + 8 ≤ n) (C : Nat) (y0 y1 y2 y3 : UInt8) (ys : List UInt8) (hbs : Bytes w (some ⟨b, off, none⟩) cap ys) (Hs : Hid (4 + L = ys.length)) (HC : Hid (C = (crc ys).toNat))
    (d0 : w.cell? ⟨b, off + (4 + L), none⟩ = some (bv y0)) (d1 : w.cell? ⟨b, off + (4 + L) + 1, none⟩ = some (bv y1)) (d2 : w.cell? ⟨b, off + (4 + L) + 2, none⟩ = some (bv y2)) (d3 : w.cell? ⟨b, off + (4 + L) + 3, none⟩ = some (bv y3))
    (hq : Hid ((((y0.toNat : Int) != (C : Int) % 256) = true) ∨ (((y0.toNat : Int) != (C : Int) % 256) = false ∧ ((y1.toNat : Int) != (C : Int) / 256 % 256) = true) ∨ (((y0.toNat : Int) != (C : Int) % 256) = false ∧ ((y1.toNat : Int) != (C : Int) / 256 % 256) = false ∧ ((y2.toNat : Int) != (C : Int) / 65536 % 256) = true) ∨
      (((y0.toNat : Int) != (C : Int) % 256) = false ∧ ((y1.toNat : Int) != (C : Int) / 256 % 256) = false ∧ ((y2.toNat : Int) != (C : Int) / 65536 % 256) = false ∧ ((y3.toNat : Int) != (C : Int) / 16777216 % 256) = true))) :
    Calls Try.prog 24 #[.slice (some ⟨b, off, none⟩) n cap] w fun e w' => e = .returned (.tuple #[.slice none 0 0, .int .i64 0, .int .i64 12]) ∧ Below w.heap.size w w' := by
  have HJ := Lib.hid (join4 x0 x1 x2 x3 L HL.out)
  have b0 := byte_lt x0
  have b1 := byte_lt x1
  have b2 := byte_lt x2
  have b3 := byte_lt x3
  have i0 : (0 : Int) < (n : Int) := by omega
  have i1 : (1 : Int) < (n : Int) := by omega
  have i2 : (2 : Int) < (n : Int) := by omega
  have i3 : (3 : Int) < (n : Int) := by omega
  have hcap : ¬ cap = 4 + L := by omega
  have hcap4 : ¬ cap = 4 := by omega
  go_enter Try.func24, Try.ntmps24
  go_wp2
  go_quiet (fail)
  rw [HJ.out]
  go_wp2_with (fail)
  refine (rsum_n (some ⟨b, off, none⟩) (4 + L) cap ys C _ (hbs.drewN _) Hs.out HC.out).mono ?_
  rintro e w' ⟨rfl, rfl⟩
  have g0 := byte_lt y0
  have g1 := byte_lt y1
  have g2 := byte_lt y2
  have g3 := byte_lt y3
  rcases hq.out with k0 | ⟨k0, k1⟩ | ⟨k0, k1, k2⟩ | ⟨k0, k1, k2, k3⟩
  all_goals
    go_wp2
    go_ret3
    exact ⟨rfl, below_drewN (Below.refl _ _) _⟩

set_option maxRecDepth 100000 in
set_option maxHeartbeats 1000000 in
theorem ropen_ok (hle : n ≤ cap) (hm : cap ≤ 9223372036854775807) (h1 : L ≤ 2147483647) (h2 : L + 8 ≤ n) (C : Nat) (y0 y1 y2 y3 : UInt8) (ys : List UInt8) (hbs : Bytes w (some ⟨b, off, none⟩) cap ys) (Hs : Hid (4 + L = ys.length)) (HC : Hid (C = (crc ys).toNat))
    (d0 : w.cell? ⟨b, off + (4 + L), none⟩ = some (bv y0)) (d1 : w.cell? ⟨b, off + (4 + L) + 1, none⟩ = some (bv y1)) (d2 : w.cell? ⟨b, off + (4 + L) + 2, none⟩ = some (bv y2)) (d3 : w.cell? ⟨b, off + (4 + L) + 3, none⟩ = some (bv y3))
    (zs : List UInt8) (hbm : Bytes w (some ⟨b, off + 4, none⟩) (cap - 4) zs) (Hm : Hid (L = zs.length))
    (k0 : ((y0.toNat : Int) != (C : Int) % 256) = false) (k1 : ((y1.toNat : Int) != (C : Int) / 256 % 256) = false) (k2 : ((y2.toNat : Int) != (C : Int) / 65536 % 256) = false) (k3 : ((y3.toNat : Int) != (C : Int) / 16777216 % 256) = false) :
    Calls Try.prog 24 #[.slice (some ⟨b, off, none⟩) n cap] w fun e w' => ∃ a' cap', e = .returned (.tuple #[.slice a' L cap', .int .i64 ((L + 8 : Nat) : Int), .int .i64 0]) ∧ OwnB w' w.heap.size a' L cap' zs ∧ Below w.heap.size w w' := by
  have HJ := Lib.hid (join4 x0 x1 x2 x3 L HL.out)
  have b0 := byte_lt x0
  have b1 := byte_lt x1
  have b2 := byte_lt x2
  have b3 := byte_lt x3
  have i0 : (0 : Int) < (n : Int) := by omega
  have i1 : (1 : Int) < (n : Int) := by omega
  have i2 : (2 : Int) < (n : Int) := by omega
  have i3 : (3 : Int) < (n : Int) := by omega
  have hcap : ¬ cap = 4 + L := by omega
  have hcap4 : ¬ cap = 4 := by omega
  go_enter Try.func24, Try.ntmps24
  go_wp2
  go_quiet (fail)
  rw [HJ.out]
  go_wp2_with (fail)
  refine (rsum_n (some ⟨b, off, none⟩) (4 + L) cap ys C _ (hbs.drewN _) Hs.out HC.out).mono ?_
  rintro e w' ⟨rfl, rfl⟩
  have g0 := byte_lt y0
  have g1 := byte_lt y1
  have g2 := byte_lt y2
  have g3 := byte_lt y3
  obtain ⟨a', cap', w', hrun, ho, hg⟩ := run_append_bytes (w.drewN nq) 31 (OwnB.nil (w.drewN nq) w.heap.size) (some ⟨b, off + 4, none⟩) (4 + L - 4) (cap - 4) zs (hbm.drewN nq) (by have := Hm.out; omega) (by omega) (by simp)
  rw [Nat.zero_add] at hrun ho
  rw [List.nil_append] at ho
  have Ho := Lib.hid ho
  have Hr := Lib.hid hrun
  clear ho hrun
  go_wp2_with (at_builtin; refine wpList_append_run rfl _ _ 31 31 rfl _ _ _ _ rfl rfl Hr.out ?_)
  go_ret3
  refine ⟨a', cap', ?_, ?_, ?_⟩
  · simp
  · have := Ho.out; rwa [Nat.add_sub_cancel_left] at this
  · exact (below_drewN (Below.refl _ _) nq).trans ((grownBy_below hg (fun i e => (by cases e))).mono (by simp))
end

end Go.Proofs.Ytahibjiiaocjkaa
