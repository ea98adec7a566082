/- Layer 7: grammar.Text. -/
import Derived.Test.YtoaabfdilhbajaaXp
namespace Go.Proofs.Ytoaabfdilhbajaa
open Go.RowKit Go.Shelf

attribute [local go_sem] Oper.semAt_some

theorem len_of {c a r G : List UInt8} (h : c ++ (a ++ r) = G) (hg : G.length ≤ 1787700) : c.length + a.length ≤ 1787700 := by
  have := congrArg List.length h
  simp only [List.length_append] at this
  omega
theorem step_of {c a r G : List UInt8} (h : c ++ (a ++ r) = G) : (c ++ a) ++ r = G := by rw [List.append_assoc]; exact h
theorem bs_size (s : ByteArray) : s.size = s.data.toList.length := rfl

theorem writeL_any (B : Nat) (c a : List UInt8) (s : ByteArray) (hs : s.data.toList = a) (w : World) (h : BuF B B (Lib.byteCells c) w) (hlen : c.length + a.length ≤ 1787700) (hB : B ≤ w.heap.size) :
    Calls Try.prog 18 #[.pointer (some ⟨B, 0, none⟩), .string s] w fun e w' => e = .returned (.tuple #[.int .i64 s.size, .nilIface]) ∧ BuF B B (Lib.byteCells (c ++ a)) w' ∧ Below B w w' ∧ OthK B w w' := by
  subst hs
  refine (write_any B B (Lib.byteCells c) s w h (by rw [Lib.byteCells_length, bs_size]; omega) hB).mono ?_
  rintro e w' ⟨rfl, h1, h2, h3⟩
  refine ⟨rfl, .inr ?_, h2, h3⟩
  rw [Lib.byteCells_append, ← Lib.strCells_eq]
  exact h1
theorem sp_list (s : ByteArray) : ((⟨#[32]⟩ : ByteArray) ++ s).data.toList = 32 :: s.data.toList := by simp
theorem bu_new (w : World) : BuF w.heap.size w.heap.size (Lib.byteCells []) (w.alloc (.cells #[.pointer none, .slice none 0 0] 44)) :=
  .inl ⟨Nat.le_refl _, .slice none 0 0, heap_alloc_new w _, World.ownsRowF_nil _ _ _ _, by simp [Value.ownBlock]⟩
theorem rule_kept {B : Nat} {w w' : World} {x y : Value} (hB : B < w.heap.size) (h : OthK B (w.alloc (.cells #[x, y] 40)) w') : w'.heap[w.heap.size]? = some (.cells #[x, y] 40 (0, 0)) :=
  h _ _ (heap_alloc_new w _) (fun e => by injection e with e; omega) (fun c fz e => by injection e with _ e _; exact absurd e (by decide))

set_option maxRecDepth 100000 in
set_option maxHeartbeats 4000000 in
theorem gtext_any (rs : List RlD) (a : Option Addr) (cap : Nat) (w : World) (hl : Rls w a cap rs) :
    Calls Try.prog 10 #[.agg #[.slice a rs.length cap]] w fun r w' => r = .returned (.tuple #[.string (txG rs), .int .i64 (chkG rs)]) ∧ Below w.heap.size w w' := by
  have hlm : rs.length ≤ cap ∧ cap ≤ 9223372036854775807 := ⟨hl.le, hl.max⟩
  have hA0 := Blk.new w 24 #[.slice a rs.length cap]
  have hb0 : Below w.heap.size w (w.alloc (.cells #[.slice a rs.length cap] 24)) := (Below.refl _ w).alloc (Nat.le_refl _) _
  have Hc := Lib.hid (gcheck_any rs a cap _ (hl.grown hb0))
  obtain ⟨X, hX⟩ : ∃ X, Hid (txG rs = X) := ⟨_, Lib.hid rfl⟩
  rw [hX.out]
  have HG0 := Lib.hid (fun h => grT_small (rs := rs) h)
  have HX0 : Hid (chkG rs = 0 → (grT (grP rs)) = X.data.toList) := Lib.hid (fun h => by rw [← hX.out]; unfold txG; rw [if_pos h])
  have HX1 : Hid (¬ chkG rs = 0 → X = ⟨#[]⟩) := Lib.hid (fun h => by rw [← hX.out]; unfold txG; rw [if_neg h])
  obtain ⟨C, hC⟩ : ∃ C, Hid (chkG rs = C) := ⟨_, Lib.hid rfl⟩
  rw [hC.out] at Hc HG0 HX0 HX1 ⊢
  obtain ⟨L, HL⟩ : ∃ L, Hid (rs.length = L) := ⟨_, Lib.hid rfl⟩
  rw [HL.out] at hlm hA0 hb0 Hc ⊢
  have x0 := hA0.cell 0
  have xl := hA0.lt
  simp only [List.getElem?_cons_zero] at x0
  by_cases h0 : C = 0
  case neg =>
    have HX2 := Lib.hid (HX1.out h0)
    rw [HX2.out]
    go_enter Try.func10, Try.ntmps10
    go_wp2_with (fail)
    refine Hc.out.mono ?_
    rintro r w1 ⟨rfl, hb1⟩
    go_wp2_with (fail)
    exact bodyPost_ret (v := .tuple #[.string ⟨#[]⟩, .int .i64 C]) (by simp [results, Try.results10, go_sem]; try first | rfl | assumption | omega) rfl ⟨rfl, hb0.trans (hb1.mono hb0.size)⟩
  case pos =>
  subst h0
  have HG := Lib.hid (HG0.out rfl)
  have HX := Lib.hid (HX0.out rfl)
  clear HG0 HX0 HX1
  obtain ⟨G, hG⟩ : ∃ G, Hid (grT (grP rs) = G) := ⟨_, Lib.hid rfl⟩
  rw [hG.out] at HG HX
  go_enter Try.func10, Try.ntmps10
  go_wp2_with (fail)
  refine Hc.out.mono ?_
  rintro r w1 ⟨rfl, hb1⟩
  have hb2 := hb0.trans (hb1.mono hb0.size)
  have x1 := cell_up hb1 x0
  have xl1 : w.heap.size < w1.heap.size := Nat.lt_of_lt_of_le xl hb1.size
  have HB := Lib.hid (bu_new w1)
  have hb3 : Below w1.heap.size w1 (w1.alloc (.cells #[.pointer none, .slice none 0 0] 44)) := (Below.refl _ w1).alloc (Nat.le_refl _) _
  have hsB : w1.heap.size < (w1.alloc (.cells #[.pointer none, .slice none 0 0] 44)).heap.size := by simp [go_sem]
  clear Hc hA0
  go_wp2_with (fail)
  generalize hW : World.alloc w1 _ = W at HB hb3 hsB ⊢
  clear hW
  have hbW := hb2.trans (hb3.mono hb2.size)
  obtain ⟨B, hBB⟩ : ∃ B, Hid (w1.heap.size = B) := ⟨_, Lib.hid rfl⟩
  rw [hBB.out] at HB hb3 hsB ⊢
  have hwB : w.heap.size ≤ B := by rw [← hBB.out]; exact hb2.size
  clear x0 x1 hb0 hb1 hb2 xl xl1 hb3
  go_loopw [21] (fun iv wr => ∃ (k : Nat) (c : List UInt8), k ≤ L ∧ iv = .int .i64 (k : Int) ∧ Hid (c ++ grT ((grP rs).drop k) = G) ∧ Hid (BuF B B (Lib.byteCells c) wr) ∧ Below B W wr) (fun iv _ => L - (intOf iv).toNat)
  case atStart => exact ⟨0, [], Nat.zero_le _, rfl, Lib.hid (by rw [List.nil_append, List.drop_zero]; exact hG.out), HB, Below.refl _ _⟩
  case round =>
    obtain ⟨k, c, hk, rfl, HE, HU, hbr⟩ := hrel
    have hbw := hbW.trans (hbr.mono hwB)
    have hsz : B < wr.heap.size := Nat.lt_of_lt_of_le hsB hbr.size
    by_cases hlt : k < L
    · have hkI : (k : Int) < (L : Int) := by omega
      have hkI0 : (0 : Int) ≤ (k : Int) := by omega
      have hkl : k < rs.length := by rw [HL.out]; exact hlt
      obtain ⟨b, off, rfl⟩ := hl.at_ k hkl
      obtain ⟨c0, c1⟩ := (hl.grown hbw).cell b off rfl k hkl
      have hdr : Hid (grT ((grP rs).drop k) = rlT (rs[k]).p ++ grT ((grP rs).drop (k + 1))) := Lib.hid (by
        have hkg : k < (grP rs).length := by unfold grP; rw [List.length_map]; exact hkl
        rw [List.drop_eq_getElem_cons hkg]
        have : (grP rs)[k] = (rs[k]).p := List.getElem_map ..
        rw [this]
        rfl)
      have hm : rs[k] ∈ rs := List.getElem_mem hkl
      obtain ⟨e, he⟩ : ∃ v, Hid (rs[k] = v) := ⟨_, Lib.hid rfl⟩
      rw [he.out] at c0 c1 hm hdr
      have hbl := World.block_lt_of_cell? wr _ c0
      have hal := Lib.hid (hl.alts e hm)
      have hem : e.ds.length ≤ e.c ∧ e.c ≤ 9223372036854775807 := ⟨by have := hal.out.row.le; rw [List.length_map] at this; exact this, hal.out.row.max⟩
      obtain ⟨T, hT⟩ : ∃ T, Hid ([32, 59, 10] ++ grT ((grP rs).drop (k + 1)) = T) := ⟨_, Lib.hid rfl⟩
      have HE1 : Hid (c ++ (e.n.data.toList ++ (alT [32, 61] (e.ds.map AltD.l) ++ T)) = G) := Lib.hid (by
        rw [← HE.out, hdr.out, ← hT.out]
        simp only [rlT, RlD.p, List.append_assoc])
      obtain ⟨M, HM⟩ : ∃ M, Hid (e.ds.length = M) := ⟨_, Lib.hid rfl⟩
      rw [HM.out] at c1 hem
      have hB0 := Blk.new wr 40 #[.string e.n, .slice e.a M e.c]
      have hb4 : Below B wr (wr.alloc (.cells #[.string e.n, .slice e.a M e.c] 40)) := (Below.refl _ wr).alloc (Nat.le_of_lt hsz) _
      have y0 := hB0.cell 0
      have yl := hB0.lt
      simp only [List.getElem?_cons_zero] at y0
      clear hB0 hm
      have Hw := Lib.hid (writeL_any B c e.n.data.toList e.n rfl _ (HU.out.alloc (.cells #[.string e.n, .slice e.a M e.c] 40)) (len_of HE1.out HG.out) (Nat.le_trans (Nat.le_of_lt hsz) hb4.size))
      go_wp2_with (fail)
      refine Hw.out.mono ?_
      rintro r w3 ⟨rfl, HU1, hb5, hk5⟩
      have HU3 := Lib.hid HU1
      have hr3 := rule_kept hsz hk5
      have y1 : w3.cell? ⟨wr.heap.size, 1, none⟩ = some (.slice e.a M e.c) := by rw [Lib.cell_of_heap hr3]; rfl
      have yl3 : wr.heap.size < w3.heap.size := Nat.lt_of_lt_of_le yl hb5.size
      have hb6 := hbr.trans (hb4.trans hb5)
      have HE3 := Lib.hid (step_of HE1.out)
      clear HU1 hk5 hr3 Hw HU hbl c0 c1
      go_wp2_with (fail)
      go_loopw [8, 31] (fun sv iv wr => ∃ (j : Nat) (bf : ByteArray) (c : List UInt8), j ≤ M ∧ iv = .int .i64 (j : Int) ∧ sv = .string bf ∧ Hid (c ++ (alT bf.data.toList ((e.ds.map AltD.l).drop j) ++ T) = G) ∧ Hid (BuF B B (Lib.byteCells c) wr) ∧ Below B W wr) (fun _ iv _ => M - (intOf iv).toNat)
      case atStart => exact ⟨0, ⟨#[32, 61]⟩, _, Nat.zero_le _, rfl, rfl, HE3, HU3, hb6⟩
      case round =>
        obtain ⟨j, bf, c2, hj, rfl, rfl, HE4, HU4, hb7⟩ := hrel
        have hbV := hbW.trans (hb7.mono hwB)
        have hsz4 : B < wr.heap.size := Nat.lt_of_lt_of_le hsB hb7.size
        by_cases hjt : j < M
        · have hjI : (j : Int) < (M : Int) := by omega
          have hjI0 : (0 : Int) ≤ (j : Int) := by omega
          have hjl : j < e.ds.length := by rw [HM.out]; exact hjt
          obtain ⟨eb, eo, hea⟩ := hal.out.row.at_ j (by rw [List.length_map]; exact hjl)
          have c2' := (hal.out.grown hbV).row.cell eb eo hea j (by rw [List.length_map]; exact hjl)
          rw [List.getElem_map] at c2'
          have hd2 : Hid (alT bf.data.toList ((e.ds.map AltD.l).drop j) = bf.data.toList ++ (nmT (e.ds[j]).l ++ alT [32, 124] ((e.ds.map AltD.l).drop (j + 1)))) := Lib.hid (by
            rw [List.drop_eq_getElem_cons (by rw [List.length_map]; exact hjl), List.getElem_map]
            rfl)
          have hm2 : e.ds[j] ∈ e.ds := List.getElem_mem hjl
          obtain ⟨d, hd⟩ : ∃ v, Hid (e.ds[j] = v) := ⟨_, Lib.hid rfl⟩
          rw [hd.out] at c2' hm2 hd2
          have hbl2 := World.block_lt_of_cell? _ _ c2'
          have hnm := Lib.hid (hal.out.nms d hm2)
          have hnl : d.l.length ≤ d.c ∧ d.c ≤ 9223372036854775807 := ⟨by have := hnm.out.le; rw [List.length_map] at this; exact this, hnm.out.max⟩
          obtain ⟨T2, hT2⟩ : ∃ T2, Hid (alT [32, 124] ((e.ds.map AltD.l).drop (j + 1)) ++ T = T2) := ⟨_, Lib.hid rfl⟩
          have HE5 : Hid (c2 ++ (bf.data.toList ++ (nmT d.l ++ T2)) = G) := Lib.hid (by
            rw [← HE4.out, hd2.out, ← hT2.out]
            simp only [List.append_assoc])
          obtain ⟨N, HN⟩ : ∃ N, Hid (d.l.length = N) := ⟨_, Lib.hid rfl⟩
          have hdv : d.v = .slice d.a N d.c := by rw [← HN.out]
          rw [hdv] at c2'
          rw [HN.out] at hnl
          clear hdv hm2
          have Hw4 := Lib.hid (writeL_any B c2 bf.data.toList bf rfl wr HU4.out (len_of HE5.out HG.out) (Nat.le_of_lt hsz4))
          rw [hea]
          go_wp2_with (fail)
          refine Hw4.out.mono ?_
          rintro r w5 ⟨rfl, HU5, hb8, _⟩
          have HU6 := Lib.hid HU5
          have hb9 := hb7.trans hb8
          have HE6 := Lib.hid (step_of HE5.out)
          clear HU5 Hw4 HU4
          go_wp2_with (fail)
          go_loopw [39] (fun iv wr => ∃ (i : Nat) (c : List UInt8), i ≤ N ∧ iv = .int .i64 (i : Int) ∧ Hid (c ++ (nmT (d.l.drop i) ++ T2) = G) ∧ Hid (BuF B B (Lib.byteCells c) wr) ∧ Below B W wr) (fun iv _ => N - (intOf iv).toNat)
          case atStart => exact ⟨0, _, Nat.zero_le _, rfl, HE6, HU6, hb9⟩
          case round =>
            obtain ⟨i, c3, hi, rfl, HE7, HU7, hb10⟩ := hrel
            have hbX := hbW.trans (hb10.mono hwB)
            have hsz7 : B < wr.heap.size := Nat.lt_of_lt_of_le hsB hb10.size
            by_cases hit : i < N
            · have hiI : (i : Int) < (N : Int) := by omega
              have hiI0 : (0 : Int) ≤ (i : Int) := by omega
              have hil : i < d.l.length := by rw [HN.out]; exact hit
              obtain ⟨nb, no, hna⟩ := hnm.out.at_ i (by rw [List.length_map]; exact hil)
              have c3' := (hnm.out.grown hbX).cell nb no hna i (by rw [List.length_map]; exact hil)
              rw [List.getElem_map] at c3'
              have hd3 : Hid (nmT (d.l.drop i) = (32 :: (d.l[i]).data.toList) ++ nmT (d.l.drop (i + 1))) := Lib.hid (by
                rw [List.drop_eq_getElem_cons hil]
                rfl)
              obtain ⟨s, hs⟩ : ∃ v, Hid (d.l[i] = v) := ⟨_, Lib.hid rfl⟩
              rw [hs.out] at c3' hd3
              have hbl3 := World.block_lt_of_cell? _ _ c3'
              have HE8 : Hid (c3 ++ ((32 :: s.data.toList) ++ (nmT (d.l.drop (i + 1)) ++ T2)) = G) := Lib.hid (by
                rw [← HE7.out, hd3.out]
                simp only [List.append_assoc])
              have hlen := len_of HE8.out HG.out
              have hss : s.size ≤ 1787700 := by rw [bs_size]; simp only [List.length_cons] at hlen; omega
              have Hw7 := Lib.hid (writeL_any B c3 (32 :: s.data.toList) ((⟨#[32]⟩ : ByteArray) ++ s) (sp_list s) wr HU7.out hlen (Nat.le_of_lt hsz7))
              clear hlen
              rw [hna]
              go_wp2_with (fail)
              refine Hw7.out.mono ?_
              rintro r w7 ⟨rfl, HU8, hb11, _⟩
              go_wp2_with (fail)
              exact ⟨⟨i + 1, _, by omega, by simp, Lib.hid (step_of HE8.out), Lib.hid HU8, hb10.trans hb11⟩, by simp [intOf]; omega⟩
            · obtain rfl : i = N := by omega
              have hiI : ¬ (i : Int) < (i : Int) := by omega
              have HE8 : Hid (c3 ++ (alT [32, 124] ((e.ds.map AltD.l).drop (j + 1)) ++ T) = G) := Lib.hid (by
                have hz : d.l.drop i = [] := List.drop_eq_nil_of_le (by rw [HN.out]; exact Nat.le_refl _)
                rw [← HE7.out, hz, ← hT2.out]
                rfl)
              go_wp2_with (fail)
              exact ⟨⟨j + 1, ⟨#[32, 124]⟩, _, by omega, by simp, by first | rfl | trivial, HE8, HU7, hb10⟩, by simp [intOf]; omega⟩
        · obtain rfl : j = M := by omega
          have hjI : ¬ (j : Int) < (j : Int) := by omega
          have HE5 : Hid (c2 ++ ([32, 59, 10] ++ grT ((grP rs).drop (k + 1))) = G) := Lib.hid (by
            have hz : (e.ds.map AltD.l).drop j = [] := List.drop_eq_nil_of_le (by rw [List.length_map, HM.out]; exact Nat.le_refl _)
            rw [← HE4.out, hz, hT.out]
            rfl)
          have Hw4 := Lib.hid (writeL_any B c2 [32, 59, 10] ⟨#[32, 59, 10]⟩ rfl wr HU4.out (len_of HE5.out HG.out) (Nat.le_of_lt hsz4))
          go_wp2_with (fail)
          refine Hw4.out.mono ?_
          rintro r w5 ⟨rfl, HU5, hb8, _⟩
          go_wp2_with (fail)
          exact ⟨⟨k + 1, _, by omega, by simp, Lib.hid (step_of HE5.out), Lib.hid HU5, hb7.trans hb8⟩, by simp [intOf]; omega⟩
    · obtain rfl : k = L := by omega
      have hkI : ¬ (k : Int) < (k : Int) := by omega
      have hcX : Hid ((⟨c.toArray⟩ : ByteArray) = X) := Lib.hid (by
        have h1 : c = X.data.toList := by
          have hz : (grP rs).drop k = [] := List.drop_eq_nil_of_le (by unfold grP; rw [List.length_map, HL.out]; exact Nat.le_refl _)
          rw [← HX.out, ← HE.out, hz]
          exact (List.append_nil c).symm
        rw [h1])
      have Hs := Lib.hid (bstr_any B B c wr HU.out (Nat.le_of_lt hsz))
      go_wp2_with (fail)
      refine Hs.out.mono ?_
      rintro r w5 ⟨rfl, hb8⟩
      rw [hcX.out]
      go_wp2_with (fail)
      exact bodyPost_ret (v := .tuple #[.string X, .int .i64 0]) (by simp [results, Try.results10, go_sem]; try first | rfl | assumption | omega) rfl ⟨rfl, hbw.trans (hb8.mono hwB)⟩
end Go.Proofs.Ytoaabfdilhbajaa
