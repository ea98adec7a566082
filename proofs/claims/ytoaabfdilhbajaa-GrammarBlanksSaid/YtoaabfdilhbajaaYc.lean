/- Layer 7: the law GrammarBack. -/
import Derived.Test.YtoaabfdilhbajaaXy
import Derived.Test.YtoaabfdilhbajaaYb
namespace Go.Proofs.Ytoaabfdilhbajaa
open Go.RowKit Go.Shelf

attribute [local go_sem] Oper.semAt_some

set_option maxRecDepth 100000 in
set_option maxHeartbeats 4000000 in
theorem back_any (rs : List RlD) (a : Option Addr) (cap : Nat) (w : World) (hl : Rls w a cap rs) :
    Calls Try.prog 5 #[.agg #[.slice a rs.length cap]] w fun r w' => r = .returned (.bool true) ∧ Below w.heap.size w w' := by
  have hlm : rs.length ≤ cap ∧ cap ≤ 9223372036854775807 := ⟨hl.le, hl.max⟩
  have hA0 := Blk.new w 24 #[.slice a rs.length cap]
  have hb0 : Below w.heap.size w (w.alloc (.cells #[.slice a rs.length cap] 24)) := (Below.refl _ w).alloc (Nat.le_refl _) _
  have HB : Hid (∀ V, Below w.heap.size w V → _) := Lib.hid (fun V h => big_any rs a cap V (hl.grown h))
  have HT : Hid (∀ V, Below w.heap.size w V → _) := Lib.hid (fun V h => gtext_any rs a cap V (hl.grown h))
  have HK := Lib.hid (fun h1 h2 => parse_back (rs := rs) h1 h2)
  have hX0 : Hid (¬ chkG rs = 0 → txG rs = ⟨#[]⟩) := Lib.hid (fun h => by unfold txG; rw [if_neg h])
  have hXs := tx_size (rs := rs)
  have HS : Hid (∀ V (b : Option Addr) (bc : Nat) (m : List RlD), Below w.heap.size w V → Rls V b bc m → grP m = grP rs → Calls Try.prog 15 #[.agg #[.slice b m.length bc], .agg #[.slice a rs.length cap]] V fun e w' => e = .returned (.bool true) ∧ Below V.heap.size V w') := Lib.hid (fun V b bc m h hm e => by
    have := refGSame_any b a bc cap m rs V hm (hl.grown h)
    rw [e, decide_eq_true rfl] at this
    exact this)
  obtain ⟨X, hX⟩ : ∃ X, Hid (txG rs = X) := ⟨_, Lib.hid rfl⟩
  obtain ⟨C, hC⟩ : ∃ C, Hid (chkG rs = C) := ⟨_, Lib.hid rfl⟩
  obtain ⟨L, HL⟩ : ∃ L, Hid (rs.length = L) := ⟨_, Lib.hid rfl⟩
  rw [HL.out] at hlm hA0 hb0 HB HT HS ⊢
  rw [hX.out] at HT HK hX0 hXs
  rw [hC.out] at HT HK hX0
  have x0 := hA0.cell 0
  have xl := hA0.lt
  simp only [List.getElem?_cons_zero] at x0
  clear hA0
  go_enter Try.func5, Try.ntmps5
  go_wp2_with (fail)
  refine (live7_any _).mono ?_
  rintro e w1 ⟨rfl, hb1⟩
  have x1 := cell_up hb1 x0
  have xl1 := World.block_lt_of_cell? _ _ x1
  have hb2 := hb0.trans (hb1.mono hb0.size)
  go_wp2_with (fail)
  refine (HB.out _ hb2).mono ?_
  rintro e w2 ⟨⟨q, rfl⟩, hb3⟩
  have x2 := cell_up hb3 x1
  have xl2 := World.block_lt_of_cell? _ _ x2
  have hb4 := hb2.trans (hb3.mono hb2.size)
  cases q
  case true =>
    go_wp2_with (fail)
    exact bodyPost_ret (v := .bool true) (by simp [results, Try.results5, go_sem]; try first | rfl | assumption | omega) rfl ⟨rfl, hb4⟩
  case false =>
  go_wp2_with (fail)
  refine (HT.out _ hb4).mono ?_
  rintro e w3 ⟨rfl, hb5⟩
  have x3 := cell_up hb5 x2
  have xl3 := World.block_lt_of_cell? _ _ x3
  have hb6 := hb4.trans (hb5.mono hb4.size)
  by_cases h0 : C = 0
  case neg =>
    have hXe := hX0.out h0
    subst hXe
    go_wp2_with (fail)
    exact bodyPost_ret (v := .bool true) (by simp [results, Try.results5, go_sem]; try first | rfl | assumption | omega) rfl ⟨rfl, hb6⟩
  case pos =>
  subst h0
  by_cases h4 : 4096 < X.size
  · have h4I : (4096 : Int) < (X.size : Int) := by omega
    clear HK hX0
    go_wp2_with (fail)
    exact bodyPost_ret (v := .bool true) (by simp [results, Try.results5, go_sem]; try first | rfl | assumption | omega) rfl ⟨rfl, hb6⟩
  · have h4I : ¬ (4096 : Int) < (X.size : Int) := by omega
    have HP0 := HK.out rfl (by omega)
    have HP : Hid (Calls Try.prog 16 #[.string X] w3 (PaQ w3 (grP rs, 0, 0))) := Lib.hid (by rw [← HP0]; exact parse_any X w3)
    clear HK hX0 HP0
    go_wp2_with (fail)
    refine HP.out.mono ?_
    rintro e w5 ⟨m, b, bc, rfl, hg, hm, hb7⟩
    have Hg := Lib.hid hg
    have hmm : m.length ≤ bc ∧ bc ≤ 9223372036854775807 := ⟨hm.le, hm.max⟩
    have x5 := cell_up hb7 x3
    have xl5 := World.block_lt_of_cell? _ _ x5
    have hb8 := hb6.trans (hb7.mono hb6.size)
    have hb9 := hb8.alloc hb8.size (.cells #[.slice b m.length bc] 24)
    have hB := Blk.new w5 24 #[.slice b m.length bc]
    have hs := HS.out _ b bc m hb9 (hm.grown (up1 _ _)) hg
    have x6 := cell_up (up1 w5 (.cells #[.slice b m.length bc] 24)) x5
    have xl6 := World.block_lt_of_cell? _ _ x6
    obtain ⟨ML, HML⟩ : ∃ L, Hid (m.length = L) := ⟨_, Lib.hid rfl⟩
    rw [HML.out] at hb9 hB hs hmm x6 xl6 ⊢
    have HSS := Lib.hid hs
    have y0 := hB.cell 0
    have yl := hB.lt
    simp only [List.getElem?_cons_zero] at y0
    clear hs hg hm hB HP
    dsimp only
    go_wp2_with (fail)
    refine HSS.out.mono ?_
    rintro e w7 ⟨rfl, hb10⟩
    go_wp2_with (fail)
    exact bodyPost_ret (v := .bool true) (by simp [results, Try.results5, go_sem]; try first | rfl | assumption | omega) rfl ⟨rfl, hb9.trans (hb10.mono hb9.size)⟩
end Go.Proofs.Ytoaabfdilhbajaa
