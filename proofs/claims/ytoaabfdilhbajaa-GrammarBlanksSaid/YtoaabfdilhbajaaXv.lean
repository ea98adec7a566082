/- Layer 7: whether a grammar is too great to be played. -/
import Derived.Test.YtoaabfdilhbajaaXt
namespace Go.Proofs.Ytoaabfdilhbajaa
open Go.RowKit Go.Shelf

attribute [local go_sem] Oper.semAt_some

/-- What the loops count, in the machine's numbers. -/
def cntA : Int → List AltD → Int
  | n, [] => n
  | n, d :: r => cntA (IntKind.i64.wrap (n + (d.l.length : Int))) r
def cntR : Int → List RlD → Int
  | n, [] => n
  | n, q :: r => cntR (cntA (IntKind.i64.wrap (n + (q.ds.length : Int))) q.ds) r

set_option maxRecDepth 100000 in
set_option maxHeartbeats 4000000 in
theorem big_any (rs : List RlD) (a : Option Addr) (cap : Nat) (w : World) (hl : Rls w a cap rs) :
    Calls Try.prog 9 #[.agg #[.slice a rs.length cap]] w fun r w' => (∃ q : Bool, r = .returned (.bool q)) ∧ Below w.heap.size w w' := by
  have hlm : rs.length ≤ cap ∧ cap ≤ 9223372036854775807 := ⟨hl.le, hl.max⟩
  have hA0 := Blk.new w 24 #[.slice a rs.length cap]
  have hb0 : Below w.heap.size w (w.alloc (.cells #[.slice a rs.length cap] 24)) := (Below.refl _ w).alloc (Nat.le_refl _) _
  obtain ⟨L, HL⟩ : ∃ L, Hid (rs.length = L) := ⟨_, Lib.hid rfl⟩
  rw [HL.out] at hlm hA0 hb0 ⊢
  have x0 := hA0.cell 0
  have xl := hA0.lt
  simp only [List.getElem?_cons_zero] at x0
  go_enter Try.func9, Try.ntmps9
  go_wp2_with (fail)
  generalize hW : World.alloc w _ = W at x0 xl hA0 hb0 ⊢
  clear hW hA0 x0 xl
  go_loopw [3, 14] (fun nv iv wr => ∃ (k : Nat) (n : Int), k ≤ L ∧ iv = .int .i64 (k : Int) ∧ nv = .int .i64 n ∧ Below W.heap.size W wr) (fun _ iv _ => L - (intOf iv).toNat)
  case atStart => exact ⟨0, _, Nat.zero_le _, rfl, rfl, Below.refl _ _⟩
  case round =>
    obtain ⟨k, n, hk, rfl, rfl, hbr⟩ := hrel
    have hbw := hb0.trans (hbr.mono hb0.size)
    by_cases hlt : k < L
    · have hkI : (k : Int) < (L : Int) := by omega
      have hkI0 : (0 : Int) ≤ (k : Int) := by omega
      have hkl : k < rs.length := by rw [HL.out]; exact hlt
      obtain ⟨b, off, rfl⟩ := hl.at_ k hkl
      obtain ⟨c0, c1⟩ := (hl.grown hbw).cell b off rfl k hkl
      have hm : rs[k] ∈ rs := List.getElem_mem hkl
      obtain ⟨e, he⟩ : ∃ v, Hid (rs[k] = v) := ⟨_, Lib.hid rfl⟩
      rw [he.out] at c0 c1 hm
      have hbl := World.block_lt_of_cell? wr _ c0
      have hal := Lib.hid (hl.alts e hm)
      have hB0 := Blk.new wr 40 #[.string e.n, .slice e.a e.ds.length e.c]
      have hb1 : Below wr.heap.size wr (wr.alloc (.cells #[.string e.n, .slice e.a e.ds.length e.c] 40)) := (Below.refl _ wr).alloc (Nat.le_refl _) _
      have hem : e.ds.length ≤ e.c ∧ e.c ≤ 9223372036854775807 := ⟨by have := hal.out.row.le; rw [List.length_map] at this; exact this, hal.out.row.max⟩
      obtain ⟨M, HM⟩ : ∃ M, Hid (e.ds.length = M) := ⟨_, Lib.hid rfl⟩
      rw [HM.out] at hB0 hb1 c1 hem
      have y0 := hB0.cell 0
      have y1 := hB0.cell 1
      have yl := hB0.lt
      simp only [List.getElem?_cons_zero, List.getElem?_cons_succ] at y0 y1
      clear hm hB0
      go_wp2_with (fail)
      generalize hV : World.alloc wr _ = V at y0 y1 yl hb1 ⊢
      clear hV
      have HB1 := Lib.hid (hbr.trans (hb1.mono hbr.size))
      go_loopw [3, 26] (fun nv iv wx => ∃ (j : Nat) (n : Int), j ≤ M ∧ iv = .int .i64 (j : Int) ∧ nv = .int .i64 n ∧ Below V.heap.size V wx) (fun _ iv _ => M - (intOf iv).toNat)
      case atStart => exact ⟨0, _, Nat.zero_le _, rfl, rfl, Below.refl _ _⟩
      case round =>
        obtain ⟨j, n2, hj, rfl, rfl, hbx⟩ := hrel
        have hbV := HB1.out.trans (hbx.mono HB1.out.size)
        have hbU := hb0.trans (hbV.mono hb0.size)
        by_cases hjt : j < M
        · have hjI : (j : Int) < (M : Int) := by omega
          have hjI0 : (0 : Int) ≤ (j : Int) := by omega
          have hjl : j < e.ds.length := by rw [HM.out]; exact hjt
          obtain ⟨eb, eo, hea⟩ := hal.out.row.at_ j (by rw [List.length_map]; exact hjl)
          have c2 := (hal.out.grown hbU).row.cell eb eo hea j (by rw [List.length_map]; exact hjl)
          rw [List.getElem_map] at c2
          obtain ⟨d, hd⟩ : ∃ v, Hid (e.ds[j] = v) := ⟨_, Lib.hid rfl⟩
          rw [hd.out] at c2
          have hbl2 := World.block_lt_of_cell? _ _ c2
          rw [show d.v = .slice d.a d.l.length d.c from rfl] at c2
          obtain ⟨N, HN⟩ : ∃ M, Hid (d.l.length = M) := ⟨_, Lib.hid rfl⟩
          rw [HN.out] at c2
          rw [hea]
          go_wp2_with (fail)
          exact ⟨⟨j + 1, _, by omega, by simp, rfl, hbx⟩, by simp [intOf]; omega⟩
        · obtain rfl : j = M := by omega
          have hjI : ¬ (j : Int) < (j : Int) := by omega
          go_wp2_with (fail)
          exact ⟨⟨k + 1, _, by omega, by simp, rfl, hbV⟩, by simp [intOf]; omega⟩
    · obtain rfl : k = L := by omega
      have hkI : ¬ (k : Int) < (k : Int) := by omega
      by_cases h5 : 5000 < n
      · go_wp2_with (fail)
        exact bodyPost_ret (v := .bool true) (by simp [results, Try.results9, go_sem]; try first | rfl | assumption | omega) rfl ⟨by first | exact .inl rfl | exact .inr rfl, hbw⟩
      · go_wp2_with (fail)
        exact bodyPost_ret (v := .bool false) (by simp [results, Try.results9, go_sem]; try first | rfl | assumption | omega) rfl ⟨by first | exact .inl rfl | exact .inr rfl, hbw⟩
end Go.Proofs.Ytoaabfdilhbajaa
