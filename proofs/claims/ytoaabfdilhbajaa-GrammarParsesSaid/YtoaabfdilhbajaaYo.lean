/- Layer 7: the law GrammarParses. -/
import Derived.Test.YtoaabfdilhbajaaYn
import Derived.Test.YtoaabfdilhbajaaYc
namespace Go.Proofs.Ytoaabfdilhbajaa
open Go.RowKit Go.Shelf

attribute [local go_sem] Oper.semAt_some

set_option maxRecDepth 100000 in
set_option maxHeartbeats 4000000 in
theorem gparses_any (s : ByteArray) (w : World) :
    Calls Try.prog 4 #[.string s] w fun r w' => r = .returned (.bool true) ∧ Below w.heap.size w w' := by
  have HP1 := Lib.hid (fun V => parse_any s V)
  have HP2 := Lib.hid (fun V => refParse_any s V)
  have hN : ∃ N : Nat, Hid ((parseP s).2.1 = N) := ⟨_, Lib.hid rfl⟩
  obtain ⟨N, hN⟩ := hN
  obtain ⟨E, hE⟩ : ∃ E : Int, Hid ((parseP s).2.2 = E) := ⟨_, Lib.hid rfl⟩
  go_enter Try.func4, Try.ntmps4
  go_wp2_with (fail)
  refine (live7_any _).mono ?_
  rintro e w1 ⟨rfl, hb1⟩
  go_wp2_with (fail)
  refine (HP1.out _).mono ?_
  rintro e w2 ⟨m, a, ac, rfl, hg, hm, hb2⟩
  have Hg := Lib.hid hg
  have hb3 := hb1.trans (hb2.mono hb1.size)
  have hmm : m.length ≤ ac ∧ ac ≤ 9223372036854775807 := ⟨hm.le, hm.max⟩
  have hA := Blk.new w2 24 #[.slice a m.length ac]
  have hb4 := hb3.alloc hb3.size (.cells #[.slice a m.length ac] 24)
  have Hm := Lib.hid (hm.grown (up1 w2 (.cells #[.slice a m.length ac] 24)))
  obtain ⟨ML, HML⟩ : ∃ L, Hid (m.length = L) := ⟨_, Lib.hid rfl⟩
  rw [HML.out] at hb4 hA hmm Hm ⊢
  rw [hN.out, hE.out]
  have Hb4 := Lib.hid hb4
  have x0 := hA.cell 0
  have xl := hA.lt
  simp only [List.getElem?_cons_zero] at x0
  clear hg hm hb3 hb4 hb1 hb2
  dsimp only
  go_wp2_with (fail)
  generalize World.alloc w2 _ = W at hA Hb4 Hm x0 xl ⊢
  refine (HP2.out _).mono ?_
  rintro e w3 ⟨q, b, bc, rfl, hg, hq, hb5⟩
  have Hg2 := Lib.hid hg
  have hqm : q.length ≤ bc ∧ bc ≤ 9223372036854775807 := ⟨hq.le, hq.max⟩
  have hA3 := (hA.below hb5 hA.lt).alloc (.cells #[.slice b q.length bc] 24)
  have hB3 := Blk.new w3 24 #[.slice b q.length bc]
  have hb6 := Hb4.out.trans (hb5.mono Hb4.out.size)
  have hb7 := hb6.alloc hb6.size (.cells #[.slice b q.length bc] 24)
  have hb8 := hb5.alloc hb5.size (.cells #[.slice b q.length bc] 24)
  have hs := refGSame_any a b ac bc m q _ (Hm.out.grown hb8) (hq.grown (up1 w3 _))
  rw [Hg.out, Hg2.out, decide_eq_true rfl] at hs
  obtain ⟨QL, HQL⟩ : ∃ L, Hid (q.length = L) := ⟨_, Lib.hid rfl⟩
  rw [HQL.out] at hA3 hB3 hb7 hqm hs ⊢
  rw [HML.out] at hs
  rw [hN.out, hE.out]
  have Hs := Lib.hid hs
  have Hb7 := Lib.hid hb7
  have y0 := hA3.cell 0
  have yl := hA3.lt
  have z0 := hB3.cell 0
  have zl := hB3.lt
  simp only [List.getElem?_cons_zero] at y0 z0
  clear hs hb7 hb8 hb6 hb5 hq hg hA hA3 hB3 x0 xl
  dsimp only
  go_wp2_with (fail)
  refine Hs.out.mono ?_
  rintro e w4 ⟨rfl, hb9⟩
  go_wp2_with (fail)
  exact bodyPost_ret (v := .bool true) (by simp [results, Try.results4, go_sem]; try first | rfl | assumption | omega) rfl ⟨rfl, Hb7.out.trans (hb9.mono Hb7.out.size)⟩
end Go.Proofs.Ytoaabfdilhbajaa
