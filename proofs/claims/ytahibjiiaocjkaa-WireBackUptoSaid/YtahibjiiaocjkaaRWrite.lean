/- The reference's write. -/
import Derived.Test.YtahibjiiaocjkaaRCount
import Derived.Test.YtahibjiiaocjkaaRef2
namespace Go.Proofs.Ytahibjiiaocjkaa
open Go.RowKit

theorem plain_num {h : Hd} {len : Nat} (hp : plainB h len = true) (hk : h.k = 1) : h.s.toList.isEmpty = true ∧ len = 0 := by
  unfold plainB at hp
  simp [hk] at hp
  exact ⟨by simp [hp.1], hp.2⟩
theorem plain_text {h : Hd} {len : Nat} (hp : plainB h len = true) (hk : h.k = 2) : len = 0 := by
  unfold plainB at hp
  simp [hk] at hp
  exact hp.2
theorem fo_nil {f : Fo} (h : f.len = 0) : f = .nil := by
  cases f with
  | nil => rfl
  | cons _ _ _ => simp [Fo.len] at h

theorem hiB_get (v : Nat) : ∀ (k j : Nat), j < k → (hiB k v)[j]? = some (UInt8.ofNat (v / 256 ^ (k - 1 - j))) := by
  intro k
  induction k with
  | zero => intro j h; omega
  | succ k ih =>
    intro j h
    cases j with
    | zero => simp [hiB]
    | succ j =>
      rw [hiB, List.getElem?_cons_succ, ih j (by omega), show k + 1 - 1 - (j + 1) = k - 1 - j from by omega]
theorem hiB_take {v j : Nat} (h : j < 8) : (hiB 8 v).take (j + 1) = (hiB 8 v).take j ++ [UInt8.ofNat (v / 256 ^ (7 - j))] := by
  rw [List.take_add_one, hiB_get v 8 j h]
  rfl
theorem hi_val {n : Int} {j : Nat} : Value.int .u8 (IntKind.u64.wrap n / 2 ^ (8 * (7 - j)) % 256) = bv (UInt8.ofNat (u64N n / 256 ^ (7 - j))) := by
  rw [show IntKind.u64.wrap n = ((u64N n : Nat) : Int) from by rw [wrap_u64]; unfold u64N; omega]
  rw [bv, UInt8.toNat_ofNat', show (256 : Nat) ^ (7 - j) = 2 ^ (8 * (7 - j)) from by rw [show (256 : Nat) = 2 ^ 8 from rfl, ← Nat.pow_mul]]
  congr 1

set_option maxRecDepth 100000 in
set_option maxHeartbeats 1000000 in
theorem rwrite_num (n : Int) (s : ByteArray) (a : Option Addr) (cap : Nat) (w : World) :
    Calls Try.prog 42 #[itemV ⟨1, n, s⟩ a 0 cap] w fun e w' => ∃ a' c', e = .returned (.slice a' 9 c') ∧ OwnB w' w.heap.size a' 9 c' (byteK 1 :: hiB 8 (u64N n)) ∧ Below w.heap.size w w' := by
  go_enter Try.func42, Try.ntmps42
  go_wp2_with (fail)
  have hBx := (Blk.new w 24 #[.int .i64 1, .int .i64 n, .string s, .slice a 0 cap]).alloc (.cells #[.int .u8 1] 5)
  have ho0 : OwnB ((w.alloc (.cells #[.int .i64 1, .int .i64 n, .string s, .slice a 0 cap] 24)).alloc (.cells #[.int .u8 1] 5)) (w.heap.size + 1) (some ⟨w.heap.size + 1, 0, none⟩) 1 1 [byteK 1] := by
    have := OwnB.lit (w.alloc (.cells #[.int .i64 1, .int .i64 n, .string s, .slice a 0 cap] 24)) (w.heap.size + 1) #[.int .u8 1] [byteK 1] (by simp) (by simp) rfl
    rw [World.size_alloc] at this
    exact this
  have hb0 : Below w.heap.size w ((w.alloc (.cells #[.int .i64 1, .int .i64 n, .string s, .slice a 0 cap] 24)).alloc (.cells #[.int .u8 1] 5)) := ((Below.refl w.heap.size w).alloc (Nat.le_refl _) _).alloc (by simp) _
  go_loopw [3, 4] (fun o i wr => ∃ (j : Nat) (a' : Option Addr) (c' : Nat), j ≤ 8 ∧ i = .int .i64 (7 - (j : Int)) ∧ o = .slice a' (1 + j) c' ∧ OwnB wr (w.heap.size + 1) a' (1 + j) c' (byteK 1 :: (hiB 8 (u64N n)).take j) ∧ Blk wr w.heap.size 24 [.int .i64 1, .int .i64 n, .string s, .slice a 0 cap] ∧ Below w.heap.size w wr) (fun _ i _ => (intOf i + 1).toNat)
  case atStart => exact ⟨0, _, _, by omega, rfl, rfl, ho0, hBx, hb0⟩
  case round =>
    obtain ⟨j, a', c', hj, rfl, rfl, hown, hBr, hbr⟩ := hrel
    have x1 := hBr.cell 1
    simp only [List.getElem?_cons_zero, List.getElem?_cons_succ] at x1
    have hlt := hBr.lt
    clear ho0 hBx hb0
    by_cases h8 : j < 8
    · obtain ⟨a2, c2, w2, hrun, ho2, hg2⟩ := run_append_one wr 31 hown (UInt8.ofNat (u64N n / 256 ^ (7 - j))) _ hi_val (by omega) (by have := hbr.size; omega)
      have Hr := Lib.hid hrun
      have Ho2 := Lib.hid ho2
      have hb2 : Below w.heap.size w w2 := hbr.grown hg2 hbr.size (fun i e => by have := (hown.lt i e).1; omega)
      have hB2 := hBr.kept hg2 (fun e => by have := (hown.lt w.heap.size e.symm).1; omega)
      have hge : (0 : Int) ≤ 7 - (j : Int) := by omega
      clear hrun ho2 hg2 hown hBr
      go_wp2_with (at_builtin; refine wpList_append_run rfl _ _ 31 31 rfl _ _ _ _ rfl rfl Hr.out ?_)
      go_roundw
      case rel => exact ⟨j + 1, a2, c2, by omega, by go_num, rfl, by rw [hiB_take h8, ← List.cons_append]; exact Ho2.out, hB2, hb2⟩
      case measure => simp [intOf]; omega
    · obtain rfl : j = 8 := by omega
      have e8 : (hiB 8 (u64N n)).take 8 = hiB 8 (u64N n) := List.take_of_length_le (by rw [hiB_length]; exact Nat.le_refl _)
      rw [e8] at hown
      have Hown := Lib.hid (hown.mono (base' := w.heap.size) (by omega))
      clear hown e8
      go_wp2_with (fail)
      go_ret
      exact ⟨a', c', rfl, Hown.out, hbr⟩

set_option maxRecDepth 100000 in
set_option maxHeartbeats 1000000 in
theorem rwrite_text (n : Int) (s : ByteArray) (a : Option Addr) (cap : Nat) (w : World) (hs : s.size ≤ 70368744177664) :
    Calls Try.prog 42 #[itemV ⟨2, n, s⟩ a 0 cap] w fun e w' => ∃ a' c', e = .returned (.slice a' (1 + (countB s.size).length + s.size) c') ∧ OwnB w' w.heap.size a' (1 + (countB s.size).length + s.size) c' (byteK 2 :: (countB s.size ++ s.data.toList)) ∧ Below w.heap.size w w' := by
  have hcl := countB_length (n := s.size) (by omega)
  obtain ⟨C, HC⟩ : ∃ C, Hid (countB s.size = C) := ⟨_, Lib.hid rfl⟩
  rw [HC.out] at hcl ⊢
  have hBx := (Blk.new w 24 #[.int .i64 2, .int .i64 n, .string s, .slice a 0 cap]).alloc (.cells #[.int .u8 2] 5)
  have ho0 : OwnB ((w.alloc (.cells #[.int .i64 2, .int .i64 n, .string s, .slice a 0 cap] 24)).alloc (.cells #[.int .u8 2] 5)) (w.heap.size + 1) (some ⟨w.heap.size + 1, 0, none⟩) 1 1 [byteK 2] := by
    have := OwnB.lit (w.alloc (.cells #[.int .i64 2, .int .i64 n, .string s, .slice a 0 cap] 24)) (w.heap.size + 1) #[.int .u8 2] [byteK 2] (by simp) (by simp) rfl
    rw [World.size_alloc] at this
    exact this
  have hb0 : Below w.heap.size w ((w.alloc (.cells #[.int .i64 2, .int .i64 n, .string s, .slice a 0 cap] 24)).alloc (.cells #[.int .u8 2] 5)) := ((Below.refl w.heap.size w).alloc (Nat.le_refl _) _).alloc (by simp) _
  have hz0 : w.heap.size + 1 ≤ ((w.alloc (.cells #[.int .i64 2, .int .i64 n, .string s, .slice a 0 cap] 24)).alloc (.cells #[.int .u8 2] 5)).heap.size := by simp
  go_enter Try.func42, Try.ntmps42
  go_wp2_with (fail)
  generalize ((w.alloc (.cells #[.int .i64 2, .int .i64 n, .string s, .slice a 0 cap] 24)).alloc (.cells #[.int .u8 2] 5)) = w0 at hBx ho0 hb0 hz0 ⊢
  have x2 := hBx.cell 2
  simp only [List.getElem?_cons_zero, List.getElem?_cons_succ] at x2
  have hrec := rcount_any 9 s.size w0.drew (by omega) (by omega) (by omega)
  rw [show cntF 9 s.size = countB s.size from rfl, HC.out] at hrec
  have ho0d : OwnB w0.drew (w.heap.size + 1) _ 1 1 [byteK 2] := World.ownsRow.drew ho0
  have hrec2 : Calls Try.prog 51 #[.int .i64 (s.size : Int)] w0.drew fun e w4 => ∃ a4 c4, e = .returned (.slice a4 C.length c4) ∧ ∃ a6 c6 w6 a7 c7 w7,
      Hid ((Builtin.append_ #[31, 31] 31 #[.slice (some ⟨w.heap.size + 1, 0, none⟩) 1 1, .slice a4 C.length c4]).run Try.prog w4 = .ok (.slice a6 (1 + C.length) c6) w6) ∧
      Hid ((Builtin.append_ #[31, 9] 31 #[.slice a6 (1 + C.length) c6, .string s]).run Try.prog w6 = .ok (.slice a7 (1 + C.length + s.size) c7) w7) ∧
      w4.cell? ⟨w.heap.size, 2, none⟩ = some (.string s) ∧ w6.cell? ⟨w.heap.size, 2, none⟩ = some (.string s) ∧ Hid (OwnB w7 w.heap.size a7 (1 + C.length + s.size) c7 (byteK 2 :: (C ++ s.data.toList))) ∧ Hid (Below w.heap.size w w7) := by
    refine hrec.mono ?_
    rintro e w4 ⟨a4, c4, rfl, ho4, hb4⟩
    have hb4' : Below w0.heap.size w0 w4 := ((Below.refl w0.heap.size w0).drew).trans hb4
    have ho5 := ho0d.below hb4
    have hz4 := Nat.le_trans hz0 hb4'.size
    obtain ⟨a6, c6, w6, hrun6, ho6, hg6⟩ := run_append_bytes w4 31 ho5 a4 C.length c4 C ho4.bytes rfl (by omega) hz4
    have hz6 := Nat.le_trans hz4 hg6.size
    obtain ⟨a7, c7, w7, hrun7, ho7, hg7⟩ := run_append_str w6 31 ho6 s (by omega) hz6
    have hBx4 := hBx.below (w' := w4) hb4' hBx.lt
    have hBx6 := hBx4.kept hg6 (fun e => by have := (ho5.lt w.heap.size e.symm).1; omega)
    have z2 := hBx6.cell 2
    have y2 := hBx4.cell 2
    simp only [List.getElem?_cons_zero, List.getElem?_cons_succ] at z2 y2
    have hbF : Below w.heap.size w w7 := ((hb0.trans (hb4'.mono hb0.size)).grown hg6 (by omega) (fun i e => by have := (ho5.lt i e).1; omega)).grown hg7 (by omega) (fun i e => by have := (ho6.lt i e).1; omega)
    exact ⟨a4, c4, rfl, a6, c6, w6, a7, c7, w7, Lib.hid hrun6, Lib.hid hrun7, y2, z2, Lib.hid (by simpa using ho7.mono (base' := w.heap.size) (by omega)), Lib.hid hbF⟩
  clear hrec ho0d ho0 hb0 hz0 hBx
  go_region_law (first | (refine step_append_run rfl (.tmp 50) (.tmp 54) 31 31 rfl _ _ _ _ rfl rfl Hr1.out ?_) | (refine step_append_run rfl (.tmp 55) (.tmp 57) 31 9 rfl _ _ _ _ rfl rfl Hr2.out ?_) | (go_simp; go_at_call 51; (with_reducible refine hrec2.mono ?_); rintro e w4 ⟨a4, c4, rfl, a6, c6, w6, a7, c7, w7, Hr1, Hr2, y2, z2, Ho7, HbF⟩))
  all_goals
    go_simp
    go_wp2
    go_ret
    exact ⟨_, _, rfl, Ho7.out, HbF.out⟩
end Go.Proofs.Ytahibjiiaocjkaa
