/- Open of the reference in one word; Seal of the reference. -/
import Derived.Test.YtahibjiiaocjkaaOpen2
namespace Go.Proofs.Ytahibjiiaocjkaa
open Go.RowKit

theorem cell_of {w : World} {b off cap : Nat} {xs : List UInt8} (hb : Bytes w (some ⟨b, off, none⟩) cap xs) (i : Nat) (c : UInt8) (h : xs[i]? = some c) : w.cell? ⟨b, off + i, none⟩ = some (bv c) := by
  obtain ⟨hlt, rfl⟩ := List.getElem?_eq_some_iff.1 h
  exact hb.cell b off rfl i hlt

theorem four_at (xs : List UInt8) (k : Nat) (h : k + 4 ≤ xs.length) : ∃ c0 c1 c2 c3, (xs.drop k).take 4 = [c0, c1, c2, c3] ∧ xs[k]? = some c0 ∧ xs[k + 1]? = some c1 ∧ xs[k + 2]? = some c2 ∧ xs[k + 3]? = some c3 := by
  obtain ⟨c0, c1, c2, c3, e⟩ := four (xs.drop k) (by rw [List.length_drop]; omega)
  have g : ∀ i, i < 4 → xs[k + i]? = [c0, c1, c2, c3][i]? := fun i hi => by
    rw [← e, List.getElem?_take, if_pos hi, List.getElem?_drop]
  exact ⟨c0, c1, c2, c3, e, g 0 (by omega), g 1 (by omega), g 2 (by omega), g 3 (by omega)⟩

theorem loV4 (y0 y1 y2 y3 : UInt8) : loV [y0, y1, y2, y3] = y0.toNat + 256 * y1.toNat + 65536 * y2.toNat + 16777216 * y3.toNat := by
  simp only [loV]; omega

theorem tests_ok (y0 y1 y2 y3 : UInt8) (C : Nat) (hC : C < 4294967296) (h : C = loV [y0, y1, y2, y3]) :
    ((y0.toNat : Int) != (C : Int) % 256) = false ∧ ((y1.toNat : Int) != (C : Int) / 256 % 256) = false ∧ ((y2.toNat : Int) != (C : Int) / 65536 % 256) = false ∧ ((y3.toNat : Int) != (C : Int) / 16777216 % 256) = false := by
  rw [loV4] at h
  have b0 := y0.toNat_lt
  have b1 := y1.toNat_lt
  have b2 := y2.toNat_lt
  have b3 := y3.toNat_lt
  simp only [bne_eq_false_iff_eq]
  omega

theorem tests_no (y0 y1 y2 y3 : UInt8) (C : Nat) (hC : C < 4294967296) (h : C ≠ loV [y0, y1, y2, y3]) :
    (((y0.toNat : Int) != (C : Int) % 256) = true) ∨ (((y0.toNat : Int) != (C : Int) % 256) = false ∧ ((y1.toNat : Int) != (C : Int) / 256 % 256) = true) ∨ (((y0.toNat : Int) != (C : Int) % 256) = false ∧ ((y1.toNat : Int) != (C : Int) / 256 % 256) = false ∧ ((y2.toNat : Int) != (C : Int) / 65536 % 256) = true) ∨
      (((y0.toNat : Int) != (C : Int) % 256) = false ∧ ((y1.toNat : Int) != (C : Int) / 256 % 256) = false ∧ ((y2.toNat : Int) != (C : Int) / 65536 % 256) = false ∧ ((y3.toNat : Int) != (C : Int) / 16777216 % 256) = true) := by
  rw [loV4] at h
  have b0 := y0.toNat_lt
  have b1 := y1.toNat_lt
  have b2 := y2.toNat_lt
  have b3 := y3.toNat_lt
  simp only [bne_eq_false_iff_eq, bne_iff_ne]
  omega

theorem ropen_any (a : Option Addr) (n cap : Nat) (xs : List UInt8) (w : World) (hb : Bytes w a cap xs) (hn : n = xs.length) :
    Calls Try.prog 24 #[.slice a n cap] w (Opened xs w) := by
  by_cases h4 : n < 4
  · refine (ropen_short a n cap xs w hb hn h4).mono ?_
    rintro e w' ⟨rfl, rfl⟩
    exact opened_err (k := 10) (by unfold openE; rw [if_pos (by omega)]) (by decide) (below_same w)
  · obtain ⟨b, off, rfl⟩ := hb.at_ 0 (by omega)
    have hle : n ≤ cap := by have := hb.le; omega
    obtain ⟨x0, x1, x2, x3, ex, e0, e1, e2, e3⟩ := four_at xs 0 (by omega)
    rw [List.drop_zero] at ex
    simp only [Nat.zero_add] at e0 e1 e2 e3
    have c0 := cell_of hb 0 x0 e0
    have c1 := cell_of hb 1 x1 e1
    have c2 := cell_of hb 2 x2 e2
    have c3 := cell_of hb 3 x3 e3
    rw [Nat.add_zero] at c0
    by_cases h1 : 2147483647 < hiV (xs.take 4)
    · refine (ropen_form b off n cap x0 x1 x2 x3 (hiV (xs.take 4)) w h4 c0 c1 c2 c3 (by rw [ex]; rfl) h1).mono ?_
      rintro e w' ⟨rfl, hbl⟩
      exact opened_err (k := 11) (by unfold openE; rw [if_neg (by omega), if_pos h1]) (by decide) hbl
    · by_cases h2 : n < hiV (xs.take 4) + 8
      · refine (ropen_short2 b off n cap x0 x1 x2 x3 (hiV (xs.take 4)) w h4 c0 c1 c2 c3 (by rw [ex]; rfl) (by omega) h2).mono ?_
        rintro e w' ⟨rfl, hbl⟩
        exact opened_err (k := 10) (by unfold openE; rw [if_neg (by omega), if_neg h1, if_pos (by omega)]) (by decide) hbl
      · obtain ⟨L, hL⟩ : ∃ L, L = hiV (xs.take 4) := ⟨_, rfl⟩
        rw [← hL] at h1 h2
        obtain ⟨y0, y1, y2, y3, ey, f0, f1, f2, f3⟩ := four_at xs (4 + L) (by omega)
        have d0 := cell_of hb (4 + L) y0 f0
        have d1 := cell_of hb (4 + L + 1) y1 f1
        have d2 := cell_of hb (4 + L + 2) y2 f2
        have d3 := cell_of hb (4 + L + 3) y3 f3
        have hbs : Bytes w (some ⟨b, off, none⟩) cap (xs.take (4 + L)) := by
          have := hb.part (lo := 0) (hi := 4 + L) (a' := some ⟨b, off, none⟩) (by omega) (by omega) (fun b' off' e _ => by cases e; rfl) (fun e => by cases e) (fun e => by cases e)
          simpa using this
        have hbm : Bytes w (some ⟨b, off + 4, none⟩) (cap - 4) ((xs.drop 4).take L) := by
          have := hb.part (lo := 4) (hi := L + 4) (a' := some ⟨b, off + 4, none⟩) (by omega) (by omega) (fun b' off' e _ => by cases e; rfl) (fun e => by cases e) (fun e => by cases e)
          rw [show L + 4 - 4 = L from by omega] at this
          exact this
        have hC : (crc (xs.take (4 + L))).toNat < 4294967296 := (crc _).isLt
        by_cases h3 : (crc (xs.take (4 + L))).toNat = loV [y0, y1, y2, y3]
        · obtain ⟨k0, k1, k2, k3⟩ := tests_ok y0 y1 y2 y3 _ hC h3
          refine (ropen_ok b off n cap x0 x1 x2 x3 L w h4 c0 c1 c2 c3 (by rw [hL, ex]; rfl) hle hb.max (by omega) (by omega) _ y0 y1 y2 y3 (xs.take (4 + L)) hbs (Lib.hid (by rw [List.length_take_of_le (by omega)])) (Lib.hid rfl) d0 d1 d2 d3
            ((xs.drop 4).take L) hbm (Lib.hid (by rw [List.length_take_of_le (by rw [List.length_drop]; omega)])) k0 k1 k2 k3).mono ?_
          rintro e w' ⟨a', cap', rfl, ho, hbl⟩
          refine opened_ok ?_ hL (by omega) ho hbl
          unfold openE
          rw [← hL, if_neg (by omega), if_neg (by omega), if_neg (by omega), if_neg (by rw [Nat.add_comm L 4, ey]; simpa using h3)]
        · refine (ropen_sum b off n cap x0 x1 x2 x3 L w h4 c0 c1 c2 c3 (by rw [hL, ex]; rfl) hle hb.max (by omega) (by omega) _ y0 y1 y2 y3 (xs.take (4 + L)) hbs (Lib.hid (by rw [List.length_take_of_le (by omega)])) (Lib.hid rfl) d0 d1 d2 d3
            (Lib.hid (tests_no y0 y1 y2 y3 _ hC h3))).mono ?_
          rintro e w' ⟨rfl, hbl⟩
          refine opened_err (k := 12) ?_ (by decide) hbl
          unfold openE
          rw [← hL, if_neg (by omega), if_neg (by omega), if_neg (by omega), if_pos (by rw [Nat.add_comm L 4, ey]; exact h3)]

theorem bv_lit (v k m : Nat) (hm : 256 ^ k = m) : bv (UInt8.ofNat (v / 256 ^ k)) = .int .u8 ((v : Int) / (m : Int) % 256) := by
  rw [← bv_of v k, Int.pow_mul]
  congr 3
  rw [← hm]; norm_cast

theorem hi4 (n : Nat) (hn : n ≤ 2147483647) : (#[.int .u8 ((n : Int) / 16777216), .int .u8 ((n : Int) / 65536 % 256), .int .u8 ((n : Int) / 256 % 256), .int .u8 ((n : Int) % 256)] : Array Value).toList = (hiB 4 n).map bv := by
  simp only [hiB, List.map_cons, List.map_nil]
  rw [bv_lit n 3 16777216 rfl, bv_lit n 2 65536 rfl, bv_lit n 1 256 rfl, bv_lit n 0 1 rfl]
  have e1 : (n : Int) / 16777216 % 256 = (n : Int) / 16777216 := by omega
  have e2 : (n : Int) / ((1 : Nat) : Int) = n := by omega
  rw [e2, show (((16777216 : Nat) : Int)) = 16777216 from rfl, e1]
  rfl

theorem lo4 (n : Nat) : (#[.int .u8 ((n : Int) % 256), .int .u8 ((n : Int) / 256 % 256), .int .u8 ((n : Int) / 65536 % 256), .int .u8 ((n : Int) / 16777216 % 256)] : Array Value).toList = (loB 4 n).map bv := by
  simp only [loB, List.map_cons, List.map_nil, List.map_append, List.nil_append, List.cons_append]
  rw [bv_lit n 3 16777216 rfl, bv_lit n 2 65536 rfl, bv_lit n 1 256 rfl, bv_lit n 0 1 rfl]
  have e2 : (n : Int) / ((1 : Nat) : Int) = n := by omega
  rw [e2]
  rfl

theorem OwnB.lit4 (w : World) (base : Nat) (cs : Array Value) (xs : List UInt8) (hb : base ≤ w.heap.size) (h4 : xs.length = 4) (hcs : cs.toList = xs.map bv) : OwnB (w.alloc (.cells cs 5)) base (some ⟨w.heap.size, 0, none⟩) 4 4 xs := by
  have := OwnB.lit w base cs xs hb (by omega) hcs
  rwa [h4] at this

set_option maxRecDepth 100000 in
set_option maxHeartbeats 400000 in
theorem rseal_any (a : Option Addr) (n cap : Nat) (xs : List UInt8) (w : World) (hb : Bytes w a cap xs) (hn : n = xs.length) (hx : n ≤ 2147483647) :
    Calls Try.prog 28 #[.slice a n cap] w fun e w' => ∃ a' cap', e = .returned (.slice a' (sealed xs).length cap') ∧ OwnB w' w.heap.size a' (sealed xs).length cap' (sealed xs) ∧ Below w.heap.size w w' := by
  have Hn := Lib.hid hn
  clear hn
  have ho0 := OwnB.lit4 w w.heap.size _ (hiB 4 n) (Nat.le_refl _) (hiB_length 4 n) (hi4 n hx)
  have hb1 := hb.grown ((Below.refl w.heap.size w).alloc (Nat.le_refl _) (.cells (#[.int .u8 ((n : Int) / 16777216), .int .u8 ((n : Int) / 65536 % 256), .int .u8 ((n : Int) / 256 % 256), .int .u8 ((n : Int) % 256)] : Array Value) 5))
  obtain ⟨a1, cap1, w1, hrun1, ho1, hg1⟩ := run_append_bytes _ 31 ho0 a n cap xs hb1 Hn.out (by omega) (by simp)
  have hg1' : w.grownBy w1 none := grownBy_trans (World.grownBy_alloc w _ none) hg1 (fun i e => .inr (by cases e; exact Nat.le_refl _))
  have Hr1 := Lib.hid hrun1
  have hl1 := Lib.hid ho1.len
  have hs1 : Hid (w.heap.size ≤ w1.heap.size) := hg1'.size
  clear hrun1 ho0 hb1 hg1
  go_enter Try.func28, Try.ntmps28
  go_wp2_with (at_builtin; refine wpList_append_run rfl _ _ 31 31 rfl _ _ _ _ rfl rfl Hr1.out ?_)
  obtain ⟨C, hC⟩ : ∃ C, C = (crc (hiB 4 n ++ xs)).toNat := ⟨_, rfl⟩
  refine (rsum_n a1 (4 + n) cap1 _ C _ ho1.bytes hl1.out hC).mono ?_
  rintro e w' ⟨rfl, rfl⟩
  have HC := Lib.hid hC
  clear hC
  have ho2 := OwnB.lit4 w1 w1.heap.size _ (loB 4 C) (Nat.le_refl _) (loB_length 4 C) (lo4 C)
  have ho1' : OwnB (w1.alloc (.cells (#[.int .u8 ((C : Int) % 256), .int .u8 ((C : Int) / 256 % 256), .int .u8 ((C : Int) / 65536 % 256), .int .u8 ((C : Int) / 16777216 % 256)] : Array Value) 5)) w.heap.size a1 (4 + n) cap1 _ := World.ownsRow.alloc ho1 _
  obtain ⟨a2, cap2, w2, hrun2, ho3, hg2⟩ := run_append_bytes _ 31 ho1' (some ⟨w1.heap.size, 0, none⟩) 4 4 (loB 4 C) ho2.bytes (loB_length 4 C).symm (by omega) (Nat.le_trans hs1.out (by simp))
  have hfin : hiB 4 n ++ xs ++ loB 4 C = sealed xs := by unfold sealed; rw [← Hn.out, ← HC.out]
  rw [hfin] at ho3
  have hlen := ho3.len
  have hrow : ∀ i, (Value.slice a1 (4 + n) cap1).ownBlock = some i → w.heap.size ≤ i := fun i e => (World.ownsRow.lt ho1 i e).1
  have hbl : Below w.heap.size w w2 := grownBy_below (grownBy_trans (grownBy_trans hg1' (World.grownBy_alloc w1 _ none) (fun i e => by cases e)) hg2 (fun i e => .inr (hrow i e))) (fun i e => by cases e)
  have Hr2 := Lib.hid hrun2
  have Hlen := Lib.hid hlen
  clear hrun2 hlen ho1 ho1' ho2 hg2 hg1' hfin hb
  go_wp2_with (at_builtin; refine wpList_append_run rfl _ _ 31 31 rfl _ _ _ _ rfl rfl Hr2.out ?_)
  go_ret
  exact ⟨a2, cap2, by rw [← Hlen.out]; rfl, by rw [← Hlen.out]; exact ho3, hbl⟩
end Go.Proofs.Ytahibjiiaocjkaa
