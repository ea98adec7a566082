/- The law WireOne. -/
import Derived.Test.YtahibjiiaocjkaaRdItem
import Derived.Test.YtahibjiiaocjkaaWSeals
namespace Go.Proofs.Ytahibjiiaocjkaa
open Go.RowKit

/-- What was read may be, is not too deep, and is written as these very bytes. -/
theorem read_check {xs : List UInt8} {h : Hd} {k : Fo} {n : Nat} (hr : Read1 40 xs h k n) : checkE (Fo.pre 1 (.cons h k .nil)) = 0 := by
  rw [checkE_ref, if_pos (by rw [hr.plain, hr.may]; rfl), if_pos hr.deep]
theorem read_enc {xs : List UInt8} {h : Hd} {k : Fo} {n : Nat} (hr : Read1 40 xs h k n) : encB (Fo.pre 1 (.cons h k .nil)) = xs.take n := by
  unfold encB
  rw [if_pos (read_check hr), encL_cons, ← hr.enc, encL_depth k 2 1]
  simp [encL, Fo.pre]

set_option maxRecDepth 100000 in
set_option maxHeartbeats 2000000 in
theorem wireOne_any (a : Option Addr) (n cap : Nat) (xs : List UInt8) (w : World) (hb : Bytes w a cap xs) (hn : n = xs.length) :
    Calls Try.prog 7 #[.slice a n cap] w fun e w' => e = .returned (.bool true) ∧ Below w.heap.size w w' := by
  have hle := hb.le
  have hmx := hb.max
  rw [← hn] at hle
  have Hn := Lib.hid hn
  clear hn
  go_enter Try.func7, Try.ntmps7
  go_wp2_with (fail)
  refine (live_any w).mono ?_
  rintro e w1 ⟨rfl, hb1⟩
  by_cases hbig : n ≤ 100000
  case neg =>
    have hgt : (100000 : Int) < (n : Int) := by omega
    go_wp2_with (fail)
    exact bodyPost_ret (v := .bool true) (by simp [results, Try.results7, go_sem]; try rfl) rfl ⟨rfl, hb1⟩
  have hng : ¬ (100000 : Int) < (n : Int) := by omega
  have hread := wread_any a n cap xs w1 (hb.grown hb1) Hn.out
  go_wp2_with (fail)
  refine hread.mono ?_
  rintro e w2 ⟨hans, hb12⟩
  clear hread
  have hb2 : Below w.heap.size w w2 := hb1.trans (hb12.mono hb1.size)
  unfold ItemAns at hans
  cases hrd : rdItem 40 xs with
  | inl E =>
    rw [hrd] at hans
    simp only at hans
    subst hans
    have hne : (E != 0) = true := by rcases rdErr _ _ _ hrd with rfl | rfl | rfl <;> rfl
    clear hrd hb12 hb1
    go_wp2_with (fail)
    exact bodyPost_ret (v := .bool true) (by simp [results, Try.results7, go_sem]; try rfl) rfl ⟨rfl, hb2.alloc hb2.size _⟩
  | inr q =>
    obtain ⟨h, k, m⟩ := q
    rw [hrd] at hans
    simp only at hans
    obtain ⟨aa, cc, rfl, hIP⟩ := hans
    have hr := rd_sound 40 xs h k m hrd
    have hm1 := hr.pos
    have hm2 := hr.le
    rw [← Hn.out] at hm2
    have hck := read_check hr
    have hen := read_enc hr
    have hws := hr.wt
    have hks := size_wtS k
    have hwt : wt (Fo.pre 1 (.cons h k .nil)) ≤ 70368744177664 := by
      have := wt_pre (.cons h k .nil) 1
      simp only [Fo.wtS] at this
      omega
    have hI := hIP.items
    have hk1 := hI.le
    have hk2 := hI.max
    have hbx : Below w2.heap.size w2 (w2.alloc (.cells #[.int .i64 h.k, .int .i64 h.n, .string h.s, .slice aa k.len cc] 24)) := (Below.refl _ w2).alloc (Nat.le_refl _) _
    have hBx := Blk.new w2 24 #[.int .i64 h.k, .int .i64 h.n, .string h.s, .slice aa k.len cc]
    have hb3 : Below w.heap.size w (w2.alloc (.cells #[.int .i64 h.k, .int .i64 h.n, .string h.s, .slice aa k.len cc] 24)) := hb2.trans (hbx.mono hb2.size)
    have hI3 := hI.grown hbx
    have hc1 := wcheck_any h k aa cc _ hI3 (by omega)
    rw [hck] at hc1
    have hpart := hb.part (lo := 0) (hi := m) (a' := a) (by omega) (by rw [← Hn.out]; exact hm2) (fun b off e _ => by simpa using e) (fun e => e) (fun e => e)
    simp only [List.drop_zero, Nat.sub_zero] at hpart
    have hlm : m = (xs.take m).length := by rw [List.length_take, ← Hn.out]; omega
    have Hlm := Lib.hid hlm
    have h1i : ¬ (m : Int) < 1 := by omega
    have h2i : ¬ (n : Int) < (m : Int) := by omega
    have hmc : (m : Int) ≤ (cap : Int) := by omega
    have hcx := fun (w' : World) (hI' : Items w' aa cc k) => wencode_any h k aa cc w' hI' (by omega) hwt
    rw [hen, hck] at hcx
    rw [← hlm] at hcx
    have Hcx := Lib.hid hcx
    clear hrd hr hck hen hws hks hwt hIP hI hbx hb12 hb1 hlm hb hcx
    go_wp2_with (fail)
    generalize (w2.alloc (.cells #[.int .i64 h.k, .int .i64 h.n, .string h.s, .slice aa k.len cc] 24)) = w3 at hBx hb3 hI3 hc1 ⊢
    refine hc1.mono ?_
    rintro e w4 ⟨rfl, hb34⟩
    have hB4 := hBx.below hb34 hBx.lt
    have hb4 : Below w.heap.size w w4 := hb3.trans (hb34.mono hb3.size)
    have hc2 := Hcx.out w4 (hI3.grown hb34)
    have x0 := hB4.cell 0
    have x1 := hB4.cell 1
    have x2 := hB4.cell 2
    have x3 := hB4.cell 3
    simp only [List.getElem?_cons_zero, List.getElem?_cons_succ] at x0 x1 x2 x3
    clear hc1 hb34 hb3 hI3 hBx hB4
    go_wp2_with (fail)
    refine hc2.mono ?_
    rintro e w5 ⟨a5, c5, rfl, ho5, hb45⟩
    have hb5 : Below w.heap.size w w5 := hb4.trans (hb45.mono hb4.size)
    have hsame := sameBytes_any a5 a m m c5 cap (xs.take m) (xs.take m) w5 ho5.bytes (hpart.grown hb5) Hlm.out Hlm.out
    rw [show decide (xs.take m = xs.take m) = true from by simp] at hsame
    clear hc2 ho5 hb45 hb4 x0 x1 x2 x3 hpart
    go_wp2_with (fail)
    refine hsame.mono ?_
    rintro e w6 ⟨rfl, rfl⟩
    go_wp2_with (fail)
    exact bodyPost_ret (v := .bool true) (by simp [results, Try.results7, go_sem]; try rfl) rfl ⟨rfl, hb5⟩
end Go.Proofs.Ytahibjiiaocjkaa
